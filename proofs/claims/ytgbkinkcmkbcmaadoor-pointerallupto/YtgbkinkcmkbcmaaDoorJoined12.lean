/-
  What pointer.Escape and pointer.Unescape answer. Conditions: at most 2^40 bytes; the table of greatest code points as it is laid.
-/
import Derived.Test.YtgbkinkcmkbcmaaDoorJoined9
import Derived.Test.YtgbkinkcmkbcmaaDoorJoined11
import Derived.Lib.ConvBytes
namespace Go.Proofs.YtgbkinkcmkbcmaaDoor
open Go.RowKit
attribute [local go_sem] setCell_drewN alloc_drewN

theorem bl_bytes (w : World) (s : ByteArray) : Below w.heap.size w (Lib.bytesWorld w 5 s) :=
  ⟨rfl, rfl, rfl, by rw [Lib.bytesWorld_size]; omega, fun k hk => Lib.bytesWorld_at_old w _ s k hk⟩
theorem byt_str (w : World) (s : ByteArray) (hs : s.size ≤ maxLen) : Byt (Lib.bytesWorld w 5 s) (.slice (some ⟨w.heap.size, 0, none⟩) s.size (grownCap w s.size 0 5)) s.data.toList := by
  unfold Byt
  have e : s.data.toList.length = s.size := Array.length_toList
  rw [e]
  refine .inr ⟨w.heap.size, 0, _, rfl, grownCap_ge _ _ _ _, grownCap_le_maxLen w s.size 0 _ hs, ⟨fun i hi => ?_, bx_lo _, bx_hi _⟩⟩
  rw [Nat.zero_add, Lib.bytesWorld_cell w _ s i hi]
  simp [bx, List.getD_eq_getElem?_getD]
theorem conv_str (w : World) (s : ByteArray) : (convert 9 65 (.string s)).run Tryd.prog w = .ok (.slice (some ⟨w.heap.size, 0, none⟩) s.size (grownCap w s.size 0 5)) (Lib.bytesWorld w 5 s) :=
  Lib.run_convert_string_bytes w _ _ _ s Tryd.underlying9 Tryd.underlying65 Tryd.underlying5

/-- Is it valid UTF-8. -/
def gdL (l : List UInt8) : Bool := (good l.length (bx l)).2
def unescL (l : List UInt8) : Option (List UInt8) := (decL 37 2 mP l).bind fun o => if gdL o = true then some o else none
def uV : Option (List UInt8) → Value
  | some o => .tuple #[.string (bs o), .int .i64 0]
  | none => .tuple #[.string ⟨#[]⟩, .int .i64 70]
theorem decL_len {m : UInt8} {wd : Nat} {mean : List UInt8 → Option UInt8} (n : Nat) : ∀ (l o : List UInt8), l.length ≤ n → decL m wd mean l = some o → o.length ≤ l.length := by
  induction n with
  | zero =>
    intro l o hl h
    cases l with
    | nil => rw [decL_nil] at h; injection h with h; subst h; exact Nat.le_refl _
    | cons c t => simp at hl
  | succ n ih =>
    intro l o hl h
    cases l with
    | nil => rw [decL_nil] at h; injection h with h; subst h; exact Nat.le_refl _
    | cons c t =>
      simp only [List.length_cons] at hl ⊢
      by_cases e : c = m
      · subst e
        by_cases e2 : t.length < wd
        · rw [decL_short _ _ e2] at h; cases h
        · rw [decL_mark _ _ e2] at h
          cases hm : mean (t.take wd) with
          | none => rw [hm] at h; cases h
          | some d =>
            rw [hm] at h
            simp only [Option.bind_some] at h
            cases hd : decL c wd mean (t.drop wd) with
            | none => rw [hd] at h; cases h
            | some o' =>
              rw [hd] at h
              simp only [Option.map_some, Option.some.injEq] at h
              have := ih _ _ (by rw [List.length_drop]; omega) hd
              rw [List.length_drop] at this
              subst h
              simp only [List.length_cons]; omega
      · rw [decL_ne _ _ _ e] at h
        cases hd : decL m wd mean t with
        | none => rw [hd] at h; cases h
        | some o' =>
          rw [hd] at h
          simp only [Option.map_some, Option.some.injEq] at h
          have := ih _ _ (by omega) hd
          subst h
          simp only [List.length_cons]; omega

set_option maxHeartbeats 800000 in
theorem unescape_any (s : ByteArray) (w : World) (hT : Tab w) (hs : s.size ≤ 1099511627776) :
    Calls Tryd.prog 17 #[.string s] w fun r w' => r = .returned (uV (unescL s.data.toList)) ∧ Below w.heap.size w w' := by
  have h := decoded_percent s w hs
  cases hd : decL 37 2 mP s.data.toList with
  | none =>
    have HE : Hid (unescL s.data.toList = none) := by show _ = _; unfold unescL; rw [hd]; rfl
    rw [hd] at h
    simp only [dV] at h
    clear hd
    go_enter Tryd.func17, Tryd.ntmps17
    go_wp2_with (go_at_call 31; refine h.mono ?_; rintro r w' ⟨rfl, hb⟩)
    go_ret2
    exact ⟨by rw [HE.out]; rfl, hb⟩
  | some o =>
    have hol := decL_len _ _ _ (Nat.le_refl _) hd
    rw [len_of] at hol
    rw [hd] at h
    simp only [dV] at h
    have hc := fun w' => conv_str w' (bs o)
    have hg : ∀ w', Below w.heap.size w w' → Calls Tryd.prog 34 #[.slice (some ⟨w'.heap.size, 0, none⟩) (bs o).size (grownCap w' (bs o).size 0 5)] (Lib.bytesWorld w' 5 (bs o)) fun e w2 => e = .returned (.tuple #[.int .i64 ((good o.length (bx o)).1 : Nat), .bool (gdL o)]) ∧ Below w.heap.size w w2 := fun w' hb => by
      have hbt := bl_t hb (bl_bytes w' (bs o))
      refine (good_any _ _ _ _ (hT.below hbt) (byt_str w' (bs o) (by rw [bs_size]; unfold maxLen; omega))).mono ?_
      rintro e w2 ⟨rfl, n, rfl⟩
      exact ⟨rfl, bl_n hbt n⟩
    cases hgd : gdL o
    · have HE : Hid (unescL s.data.toList = none) := by show _ = _; unfold unescL; rw [hd, Option.bind_some, hgd]; rfl
      rw [hgd] at hg
      generalize ((good o.length (bx o)).1 : Nat) = nn at *
      clear hd hgd
      go_enter Tryd.func17, Tryd.ntmps17
      go_wp2_with first | (go_at_call 31; refine h.mono ?_; rintro r w' ⟨rfl, hb⟩) | (go_at_call 34; refine (hg _ (by assumption)).mono ?_; rintro r w2 ⟨rfl, hb2⟩)
      go_ret2
      exact ⟨by rw [HE.out]; rfl, hb2⟩
    · have HE : Hid (unescL s.data.toList = some o) := by show _ = _; unfold unescL; rw [hd, Option.bind_some, hgd]; rfl
      rw [hgd] at hg
      generalize ((good o.length (bx o)).1 : Nat) = nn at *
      clear hd hgd
      go_enter Tryd.func17, Tryd.ntmps17
      go_wp2_with first | (go_at_call 31; refine h.mono ?_; rintro r w' ⟨rfl, hb⟩) | (go_at_call 34; refine (hg _ (by assumption)).mono ?_; rintro r w2 ⟨rfl, hb2⟩)
      go_ret2
      exact ⟨by rw [HE.out]; rfl, hb2⟩
end Go.Proofs.YtgbkinkcmkbcmaaDoor
