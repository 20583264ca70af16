/-
  PointerParts: what it comes to at a text and parts. Conditions: at most 2^38 bytes; the tables as they are laid.
-/
import Derived.Test.YtfamppieepkmnaaDoorPR5
namespace Go.Proofs.YtfamppieepkmnaaDoor
open Go.RowKit
attribute [local go_sem] setCell_drewN alloc_drewN

theorem partsL_len (n : Nat) : ∀ (l : List UInt8) (xs : List (List UInt8)), l.length ≤ n → partsL l = some xs → xs.length ≤ l.length := by
  induction n with
  | zero =>
    intro l xs hl h
    cases l with
    | nil => rw [partsL_nil] at h; injection h with h; subst h; exact Nat.le_refl _
    | cons c t => simp at hl
  | succ n ih =>
    intro l xs hl h
    cases l with
    | nil => rw [partsL_nil] at h; injection h with h; subst h; exact Nat.le_refl _
    | cons c t =>
      rw [partsL_cons] at h
      simp only [List.length_cons] at hl ⊢
      have hsuf := (List.dropWhile_suffix (fun x : UInt8 => x != 47) (l := t)).length_le
      cases hd : decL 126 1 mT (t.takeWhile (· != 47)) with
      | none => rw [hd] at h; cases h
      | some q =>
        rw [hd] at h
        simp only [Option.bind_some] at h
        cases hp : partsL (t.dropWhile (· != 47)) with
        | none => rw [hp] at h; cases h
        | some ys =>
          rw [hp] at h
          simp only [Option.map_some, Option.some.injEq] at h
          subst h
          have := ih _ _ (by omega) hp
          simp only [List.length_cons]; omega
theorem parseL_len (l : List UInt8) : ((parseL l).getD []).length ≤ l.length := by
  unfold parseL
  split
  · cases h : partsL l with
    | none => simp
    | some xs => exact partsL_len _ l xs (Nat.le_refl _) h
  · simp

set_option maxRecDepth 100000 in
set_option maxHeartbeats 1600000 in
theorem parts_walk (s : ByteArray) (v : Value) (xs : List (List UInt8)) (w : World) (hs : s.size ≤ 274877906944) (hv : SRow w v xs) (hx : sumL xs ≤ 274877906944) (hE : Env w) :
    Calls Tryd.prog 3 #[.string s, v] w fun r w' => r = .returned (.bool true) ∧ Below w.heap.size w w' := by
  have hpl := parseL_len s.data.toList
  rw [len_of] at hpl
  have h1 := fun w' => parse_any s w' (by omega)
  have h2 := fun w' => rparse_any s w' hs
  have h3 := fun (w' : World) (hb : Below w.heap.size w w') => unescape_any s w' (hE.tab.below hb) (by omega)
  have h4 := fun w' => runescape_any s w' hs
  have h5 : ∀ w' v1 v2, SRow w' v1 ((parseL s.data.toList).getD []) → SRow w' v2 ((parseL s.data.toList).getD []) → Calls Tryd.prog 10 #[v1, v2] w' fun r w2 => r = .returned (.bool true) ∧ Below w'.heap.size w' w2 := fun w' v1 v2 a b => by
    have := texts_any v1 v2 _ _ w' a b (by omega)
    rw [decide_eq_true rfl] at this
    exact this
  have h6 := fun (w' : World) (hb : Below w.heap.size w w') => text_any v xs w' (hv.below hb) (by omega)
  have h7 := fun (w' : World) (hb : Below w.heap.size w w') => rtext_any v xs w' (hv.below hb) hx
  have h8 := fun w' => escape_any s w' (by omega)
  have h9 := fun w' => rescape_any s w' hs
  have h10 := fun (w' : World) (hb : Below w.heap.size w w') => heads_any w' (hE.below hb)
  have q1 : ((bs (textL xs)).toList == (bs (textL xs)).toList) = true := by simp
  have q2 : ((bs (encL ndP codeP s.data.toList)).toList == (bs (encL ndP codeP s.data.toList)).toList) = true := by simp
  clear hv hE hpl hx hs
  generalize bs (textL xs) = T at *
  generalize bs (encL ndP codeP s.data.toList) = E at *
  generalize unescL s.data.toList = U at *
  generalize parseL s.data.toList = P at *
  generalize errP P = ep at *
  generalize P.getD [] = ys at *
  cases U
  all_goals
    simp only [uV] at h3 h4
    go_enter Tryd.func3, Tryd.ntmps3
    go_wp2_with fail
    refine (h1 _).mono ?_
    rintro r w1 ⟨v1, rfl, hv1, hb1⟩
    go_wp2_with fail
    refine (h2 _).mono ?_
    rintro r w2 ⟨v2, rfl, hv2, hb2⟩
    have hbel2 := bl_t hb1 hb2
    have hv12 := hv1.below hb2
    clear h1 h2 hv1 hb1 hb2
    go_wp2_with fail
    refine (h3 _ hbel2).mono ?_
    rintro r w3 ⟨rfl, hb3⟩
    have hbel3 := bl_t hbel2 hb3
    have hv13 := hv12.below hb3
    have hv23 := hv2.below hb3
    clear h3 hv12 hv2 hb3 hbel2
    go_wp2_with fail
    refine (h4 _).mono ?_
    rintro r w4 ⟨rfl, hb4⟩
    have hbel4 := bl_t hbel3 hb4
    have hv14 := hv13.below hb4
    have hv24 := hv23.below hb4
    clear h4 hv13 hv23 hb4 hbel3
    go_wp2_with fail
    refine (h5 _ _ _ hv14 hv24).mono ?_
    rintro r w5 ⟨rfl, hb5⟩
    have hbel5 := bl_t hbel4 hb5
    clear h5 hv14 hv24 hb5 hbel4
    go_wp2_with fail
    refine (h6 _ hbel5).mono ?_
    rintro r w6 ⟨rfl, hb6⟩
    have hbel6 := bl_t hbel5 hb6
    clear h6 hb6 hbel5
    go_wp2_with fail
    refine (h7 _ hbel6).mono ?_
    rintro r w7 ⟨rfl, rfl⟩
    clear h7
    go_wp2_with fail
    refine (h8 _).mono ?_
    rintro r w8 ⟨rfl, hb8⟩
    have hbel8 := bl_t hbel6 hb8
    clear h8 hb8 hbel6
    go_wp2_with fail
    refine (h9 _).mono ?_
    rintro r w9 ⟨rfl, n9, rfl⟩
    have hbel9 := bl_n hbel8 n9
    clear h9 hbel8
    go_wp2_with fail
    refine (h10 _ hbel9).mono ?_
    rintro r w10 ⟨rfl, hb10⟩
    go_wp2
    go_ret
    exact ⟨rfl, bl_t hbel9 hb10⟩
end Go.Proofs.YtfamppieepkmnaaDoor
