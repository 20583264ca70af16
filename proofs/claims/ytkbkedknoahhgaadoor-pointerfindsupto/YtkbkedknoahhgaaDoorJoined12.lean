/-
  What pointer.Escape and pointer.Unescape answer. Conditions: at most 2^40 bytes; the table of greatest code points as it is laid.
  Texts in a row of the call's own; strings.Count at one sign. No condition but bounds.
-/
import Derived.Test.YtkbkedknoahhgaaDoorJoined9
import Derived.Test.YtkbkedknoahhgaaDoorJoined11
import Derived.Lib.ConvBytes
import Derived.Laws.AppendOwnNone
import Derived.Lib.Strings
import Derived.Lib.CountLaws
import Derived.Lib.Bytealg
import Derived.Laws.Externs
namespace Go.Proofs.YtkbkedknoahhgaaDoor
open Go.RowKit
attribute [local go_sem] setCell_drewN alloc_drewN

theorem bl_bytes (w : World) (s : ByteArray) : Below w.heap.size w (Lib.bytesWorld w 5 s) :=
  ⟨rfl, rfl, rfl, by rw [Lib.bytesWorld_size]; omega, fun k hk => Lib.bytesWorld_at_old w _ s k hk⟩
theorem byt_str (w : World) (s : ByteArray) (hs : s.size ≤ maxLen) : Byt (Lib.bytesWorld w 5 s) (.slice (some ⟨w.heap.size, 0, none⟩) s.size (grownCap w s.size 0 5)) s.data.toList := by
  unfold Byt
  have e : s.data.toList.length = s.size := Array.length_toList
  rw [e]
  refine .inr ⟨w.heap.size, 0, _, rfl, grownCap_ge _ _ _ _, grownCap_le_maxLen w s.size 0 _ hs, ⟨fun i hi => ?_, bx_lo _, bx_hi _⟩⟩
  rw [Nat.zero_add, Lib.bytesWorld_cell w _ s i hi]
  simp [bx, List.getD_eq_getElem?_getD]
theorem conv_str (w : World) (s : ByteArray) : (convert 9 65 (.string s)).run Tryd.prog w = .ok (.slice (some ⟨w.heap.size, 0, none⟩) s.size (grownCap w s.size 0 5)) (Lib.bytesWorld w 5 s) :=
  Lib.run_convert_string_bytes w _ _ _ s Tryd.underlying9 Tryd.underlying65 Tryd.underlying5

/-- Is it valid UTF-8. -/
def gdL (l : List UInt8) : Bool := (good l.length (bx l)).2
def unescL (l : List UInt8) : Option (List UInt8) := (decL 37 2 mP l).bind fun o => if gdL o = true then some o else none
def uV : Option (List UInt8) → Value
  | some o => .tuple #[.string (bs o), .int .i64 0]
  | none => .tuple #[.string ⟨#[]⟩, .int .i64 70]
theorem decL_len {m : UInt8} {wd : Nat} {mean : List UInt8 → Option UInt8} (n : Nat) : ∀ (l o : List UInt8), l.length ≤ n → decL m wd mean l = some o → o.length ≤ l.length := by
  induction n with
  | zero =>
    intro l o hl h
    cases l with
    | nil => rw [decL_nil] at h; injection h with h; subst h; exact Nat.le_refl _
    | cons c t => simp at hl
  | succ n ih =>
    intro l o hl h
    cases l with
    | nil => rw [decL_nil] at h; injection h with h; subst h; exact Nat.le_refl _
    | cons c t =>
      simp only [List.length_cons] at hl ⊢
      by_cases e : c = m
      · subst e
        by_cases e2 : t.length < wd
        · rw [decL_short _ _ e2] at h; cases h
        · rw [decL_mark _ _ e2] at h
          cases hm : mean (t.take wd) with
          | none => rw [hm] at h; cases h
          | some d =>
            rw [hm] at h
            simp only [Option.bind_some] at h
            cases hd : decL c wd mean (t.drop wd) with
            | none => rw [hd] at h; cases h
            | some o' =>
              rw [hd] at h
              simp only [Option.map_some, Option.some.injEq] at h
              have := ih _ _ (by rw [List.length_drop]; omega) hd
              rw [List.length_drop] at this
              subst h
              simp only [List.length_cons]; omega
      · rw [decL_ne _ _ _ e] at h
        cases hd : decL m wd mean t with
        | none => rw [hd] at h; cases h
        | some o' =>
          rw [hd] at h
          simp only [Option.map_some, Option.some.injEq] at h
          have := ih _ _ (by omega) hd
          subst h
          simp only [List.length_cons]; omega

set_option maxHeartbeats 800000 in
theorem unescape_any (s : ByteArray) (w : World) (hT : Tab w) (hs : s.size ≤ 1099511627776) :
    Calls Tryd.prog 17 #[.string s] w fun r w' => r = .returned (uV (unescL s.data.toList)) ∧ Below w.heap.size w w' := by
  have h := decoded_percent s w hs
  cases hd : decL 37 2 mP s.data.toList with
  | none =>
    have HE : Hid (unescL s.data.toList = none) := by show _ = _; unfold unescL; rw [hd]; rfl
    rw [hd] at h
    simp only [dV] at h
    clear hd
    go_enter Tryd.func17, Tryd.ntmps17
    go_wp2_with (go_at_call 31; refine h.mono ?_; rintro r w' ⟨rfl, hb⟩)
    go_ret2
    exact ⟨by rw [HE.out]; rfl, hb⟩
  | some o =>
    have hol := decL_len _ _ _ (Nat.le_refl _) hd
    rw [len_of] at hol
    rw [hd] at h
    simp only [dV] at h
    have hc := fun w' => conv_str w' (bs o)
    have hg : ∀ w', Below w.heap.size w w' → Calls Tryd.prog 34 #[.slice (some ⟨w'.heap.size, 0, none⟩) (bs o).size (grownCap w' (bs o).size 0 5)] (Lib.bytesWorld w' 5 (bs o)) fun e w2 => e = .returned (.tuple #[.int .i64 ((good o.length (bx o)).1 : Nat), .bool (gdL o)]) ∧ Below w.heap.size w w2 := fun w' hb => by
      have hbt := bl_t hb (bl_bytes w' (bs o))
      refine (good_any _ _ _ _ (hT.below hbt) (byt_str w' (bs o) (by rw [bs_size]; unfold maxLen; omega))).mono ?_
      rintro e w2 ⟨rfl, n, rfl⟩
      exact ⟨rfl, bl_n hbt n⟩
    cases hgd : gdL o
    · have HE : Hid (unescL s.data.toList = none) := by show _ = _; unfold unescL; rw [hd, Option.bind_some, hgd]; rfl
      rw [hgd] at hg
      generalize ((good o.length (bx o)).1 : Nat) = nn at *
      clear hd hgd
      go_enter Tryd.func17, Tryd.ntmps17
      go_wp2_with first | (go_at_call 31; refine h.mono ?_; rintro r w' ⟨rfl, hb⟩) | (go_at_call 34; refine (hg _ (by assumption)).mono ?_; rintro r w2 ⟨rfl, hb2⟩)
      go_ret2
      exact ⟨by rw [HE.out]; rfl, hb2⟩
    · have HE : Hid (unescL s.data.toList = some o) := by show _ = _; unfold unescL; rw [hd, Option.bind_some, hgd]; rfl
      rw [hgd] at hg
      generalize ((good o.length (bx o)).1 : Nat) = nn at *
      clear hd hgd
      go_enter Tryd.func17, Tryd.ntmps17
      go_wp2_with first | (go_at_call 31; refine h.mono ?_; rintro r w' ⟨rfl, hb⟩) | (go_at_call 34; refine (hg _ (by assumption)).mono ?_; rintro r w2 ⟨rfl, hb2⟩)
      go_ret2
      exact ⟨by rw [HE.out]; rfl, hb2⟩
end Go.Proofs.YtkbkedknoahhgaaDoor

namespace Go.Proofs.YtkbkedknoahhgaaDoor
open Go.RowKit
attribute [local go_sem] setCell_drewN alloc_drewN

theorem infoS : (Tryd.prog.info? 9).map (fun i => (i.zero, i.size, i.bytes)) = some (some (.string ⟨#[]⟩), 1, 16) := by kernel_rfl
/-- Texts as values. -/
def strs (xs : List (List UInt8)) : List Value := xs.map fun x => .string (bs x)
theorem strs_len (xs : List (List UInt8)) : (strs xs).length = xs.length := by simp [strs]
theorem strs_snoc (xs : List (List UInt8)) (y : List UInt8) : strs (xs ++ [y]) = strs xs ++ [.string (bs y)] := by simp [strs]
/-- A slice of the call's own that holds texts. -/
def OwnS (w : World) (B : Nat) (v : Value) (xs : List (List UInt8)) : Prop := w.ownsRow B 9 1 v xs.length (strs xs)
theorem OwnS.below {w w' : World} {B : Nat} {v : Value} {xs : List (List UInt8)} (h : OwnS w B v xs) (hb : Below w.heap.size w w') : OwnS w' B v xs := by
  refine World.ownsRow.kept (row := none) h ⟨hb.os, hb.tape, hb.output, hb.size, fun k hk _ => hb.block k hk⟩ ?_
  cases v.ownBlock with
  | none => exact .inl rfl
  | some g => exact .inr (by simp)
theorem cell_one_str (w : World) (x : ByteArray) : ∀ j u, [Value.string x][j]? = some u → (w.alloc (.cells #[.string x] 9)).cell? ((⟨w.heap.size, 0, none⟩ : Addr).add j) = some u := by
  intro j u hj
  match j, hj with
  | 0, hj => simp at hj; subst hj; rw [add_at, World.cell?_alloc_at _ _ _ _ rfl]; rfl
/-- 'append(x, y)', x of the call's own, y one text that was laid just now. -/
theorem wpList_append_str {w : World} {ops : Array Oper} {rest : List Oper} {o : Oper} {a : Act} {Q : Exit → Act → World → Prop} (hgd : o.guard = none) (s x : Operand)
    (ho : o.op = .call { callee := .builtin .append, args := #[s, x], argTypes := #[26, 26] }) (base : Nat) (v : Value) (xs : List (List UInt8)) (hs : a.eval s = v) (hown : OwnS w base v xs)
    (y : List UInt8) (hx : a.eval x = .slice (some ⟨w.heap.size, 0, none⟩) 1 1) (hb : xs.length + 1 ≤ 8796093022207) (hbase : base ≤ w.heap.size)
    (h : ∀ v' w', OwnS w' base v' (xs ++ [y]) → Below base w w' → wpList Tryd.prog ops Q rest (a.put o.dst v') w') : wpList Tryd.prog ops Q (o :: rest) a (w.alloc (.cells #[.string (bs y)] 9)) := by
  obtain ⟨i0, hi, hz0, hz1, hz2⟩ := info_parts infoS
  refine wpList_append_own _ hgd s x 26 ho base 9 i0 (.string ⟨#[]⟩) 1 16 Tryd.underlying26 hi hz0 hz1 hz2 rfl (by decide) v xs.length (strs xs) hs (hown.alloc _) ⟨w.heap.size, 0, none⟩ 1 1 [.string (bs y)] hx rfl (cell_one_str w (bs y)) (fun u hu => by simp at hu; subst hu; rfl) (by unfold maxLen; omega) (by omega) (by simp; omega) ?_
  intro v' w' h1 h2 _
  refine h v' w' ?_ ?_
  · unfold OwnS
    rw [strs_snoc, List.length_append]
    exact h1
  · exact ((Below.refl _ _).alloc hbase _).grown h2 (by simp; omega) (fun j hj => (World.ownsRow.lt hown j hj).1)
theorem make_strs (w : World) (c : Nat) (hc : c ≤ 8796093022207) : (Instr.makeSlice 26 (.int .i64 0) (.int .i64 (c : Int))).run Tryd.prog w = .ok (.slice (some ⟨w.heap.size, 0, none⟩) 0 c) (w.alloc (.cells (madeCells #[.string ⟨#[]⟩] c) 9)) := by
  obtain ⟨i0, hi, hz0, hz1, hz2⟩ := info_parts infoS
  have := run_make (P := Tryd.prog) w 26 9 i0 (.string ⟨#[]⟩) Tryd.underlying26 hi hz0 .i64 .i64 0 (c : Int) (by omega) (by omega) (by rw [hz2]; omega) (by omega)
  rw [hz1] at this
  simpa [Value.cells] using this
theorem make_ownS (w : World) (c : Nat) (hc : c ≤ maxLen) : OwnS (w.alloc (.cells (madeCells #[.string ⟨#[]⟩] c) 9)) w.heap.size (.slice (some ⟨w.heap.size, 0, none⟩) 0 c) [] :=
  World.ownsRow_made w _ c (Nat.le_refl _) hc (by have := size_madeCells #[Value.string ⟨#[]⟩] (c * 1); simpa using this)

/-- A slice that reads as texts. -/
def SRow (w : World) (v : Value) (xs : List (List UInt8)) : Prop :=
  (xs = [] ∧ ∃ a c, v = .slice a 0 c) ∨ ∃ b off c, v = .slice (some ⟨b, off, none⟩) xs.length c ∧ ∀ i (h : i < xs.length), w.cell? ⟨b, off + i, none⟩ = some (.string (bs (xs[i]'h)))
theorem SRow.of_own {w : World} {B : Nat} {v : Value} {xs : List (List UInt8)} (h : OwnS w B v xs) : SRow w v xs := by
  have hc : ∀ g, v.ownBlock = some g → ∀ j u, (strs xs)[j]? = some u → w.cell? ((⟨g, 0, none⟩ : Addr).add j) = some u := fun g hg => World.ownsRow.cells h hg
  rcases h.2 with ⟨hv, hx⟩ | ⟨g, cap, cur, rfl, _⟩
  · have : xs = [] := by simpa [strs] using hx
    subst this
    exact .inl ⟨rfl, none, 0, hv⟩
  · refine .inr ⟨g, 0, cap, rfl, fun i hi => ?_⟩
    have := hc g rfl i (.string (bs (xs[i]'hi))) (by simp [strs, hi])
    rw [add_at] at this
    exact this
theorem SRow.below {w w' : World} {v : Value} {xs : List (List UInt8)} (h : SRow w v xs) (hb : Below w.heap.size w w') : SRow w' v xs := by
  rcases h with h | ⟨b, off, c, rfl, hc⟩
  · exact .inl h
  · refine .inr ⟨b, off, c, rfl, fun i hi => ?_⟩
    rw [hb.cell (World.block_lt_of_cell? w _ (hc i hi))]
    exact hc i hi

set_option maxHeartbeats 1000000 in
set_option maxRecDepth 100000 in
theorem count_one (s : ByteArray) (c : UInt8) (w : World) :
    Calls Tryd.prog 28 #[.string s, .string ⟨#[c]⟩] w fun e w' => e = .returned (.int .i64 (Lib.countByte s.data.toList c)) ∧ w' = w := by
  go_enter Tryd.func28, Tryd.ntmps28
  go_wp2
  rw [run_callFunc_extern Tryd.func47 (by kernel_rfl) (by kernel_rfl) (by kernel_rfl) (e := Extern.BytealgCount.count) (by kernel_rfl), Lib.run_countString]
  simp only [Result.andThen]
  rw [Oper.upon_value]
  go_wp2
  go_ret
  exact ⟨rfl, rfl⟩
theorem count_le (l : List UInt8) (c : UInt8) : Lib.countByte l c ≤ l.length := by
  unfold Lib.countByte
  exact List.count_le_length
end Go.Proofs.YtkbkedknoahhgaaDoor
