/-
  A pointer's text is parted as it was put together. No condition.
  ref6.Check answers, whatever the value; a pointer goes on from where another one leads. Conditions: lists and texts of at most 2^30.
-/
import Derived.Test.YtkbkedknoahhgaaDoorJoined13
import Derived.Test.YtkbkedknoahhgaaDoorJoined31
namespace Go.Proofs.YtkbkedknoahhgaaDoor
open Go.RowKit

theorem encL_cons (p : Int → Bool) (code : Int → List UInt8) (c : UInt8) (l : List UInt8) : encL p code (c :: l) = (if p (c.toNat : Int) = true then code (c.toNat : Int) else [c]) ++ encL p code l := by simp [encL]
theorem dec_enc {p : Int → Bool} {code : Int → List UInt8} {m : UInt8} {wd : Nat} {mean : List UInt8 → Option UInt8} (h1 : ∀ c : UInt8, p (c.toNat : Int) = false → c ≠ m) (h2 : ∀ c : UInt8, p (c.toNat : Int) = true → ∃ t, code (c.toNat : Int) = m :: t ∧ t.length = wd ∧ mean t = some c) (l : List UInt8) :
    decL m wd mean (encL p code l) = some l := by
  induction l with
  | nil => exact decL_nil _ _ _
  | cons c l ih =>
    rw [encL_cons]
    cases hp : p (c.toNat : Int)
    · simp only [Bool.false_eq_true, if_false]
      show decL m wd mean (c :: encL p code l) = _
      rw [decL_ne _ _ _ (h1 c hp), ih]; rfl
    · obtain ⟨t, e1, e2, e3⟩ := h2 c hp
      simp only [if_true]
      rw [e1]
      show decL m wd mean (m :: (t ++ encL p code l)) = _
      rw [decL_mark _ _ (by rw [List.length_append]; omega), List.take_append_of_le_length (by omega), List.take_of_length_le (by omega), e3, Option.bind_some, List.drop_append_of_le_length (by omega), List.drop_of_length_le (by omega)]
      show (decL m wd mean (encL p code l)).map _ = _
      rw [ih]; rfl
theorem all256 {P : UInt8 → Prop} (h : ∀ n : Fin 256, P (UInt8.ofNat n.val)) (c : UInt8) : P c := by
  have hc : c.toNat < 256 := UInt8.toNat_lt c
  have := h ⟨c.toNat, hc⟩
  simpa using this
theorem tl_ne : ∀ n : Fin 256, ndT ((UInt8.ofNat n.val).toNat : Int) = false → UInt8.ofNat n.val ≠ 126 := by decide +kernel
theorem tl_back : ∀ n : Fin 256, ndT ((UInt8.ofNat n.val).toNat : Int) = true → (codeT ((UInt8.ofNat n.val).toNat : Int)).head? = some 126 ∧ (codeT ((UInt8.ofNat n.val).toNat : Int)).tail.length = 1 ∧ mT (codeT ((UInt8.ofNat n.val).toNat : Int)).tail = some (UInt8.ofNat n.val) := by decide +kernel
theorem tl_47 : ∀ n : Fin 256, (encL ndT codeT [UInt8.ofNat n.val]).all (· != 47) = true := by decide +kernel
theorem untilde_enc (l : List UInt8) : decL 126 1 mT (encL ndT codeT l) = some l :=
  dec_enc (all256 tl_ne) (fun c hc => by
    obtain ⟨h1, h2, h3⟩ := all256 (P := fun c => ndT (c.toNat : Int) = true → (codeT (c.toNat : Int)).head? = some 126 ∧ (codeT (c.toNat : Int)).tail.length = 1 ∧ mT (codeT (c.toNat : Int)).tail = some c) tl_back c hc
    cases hk : codeT (c.toNat : Int) with
    | nil => rw [hk] at h1; cases h1
    | cons a t => rw [hk] at h1 h2 h3; simp at h1; subst h1; exact ⟨t, rfl, h2, h3⟩) l
theorem enc_all {p : Int → Bool} {code : Int → List UInt8} {q : UInt8 → Bool} (h : ∀ c : UInt8, (encL p code [c]).all q = true) (l : List UInt8) : (encL p code l).all q = true := by
  induction l with
  | nil => rfl
  | cons c l ih =>
    have : encL p code (c :: l) = encL p code [c] ++ encL p code l := by rw [← encL_append]; rfl
    rw [this, List.all_append, h c, ih]; rfl
theorem text_tw (x : List UInt8) (xs : List (List UInt8)) : (encL ndT codeT x ++ textL xs).takeWhile (· != 47) = encL ndT codeT x ∧ (encL ndT codeT x ++ textL xs).dropWhile (· != 47) = textL xs := by
  have h := enc_all (all256 tl_47) x
  have ht : (textL xs).takeWhile (· != 47) = [] ∧ (textL xs).dropWhile (· != 47) = textL xs := by
    cases xs with
    | nil => exact ⟨rfl, rfl⟩
    | cons y ys =>
      have e : textL (y :: ys) = 47 :: (encL ndT codeT y ++ textL ys) := by simp [textL]
      rw [e]; simp
  generalize encL ndT codeT x = e at *
  induction e with
  | nil => exact ht
  | cons c e ih =>
    simp only [List.all_cons, Bool.and_eq_true] at h
    have := ih h.2
    rw [List.cons_append, List.takeWhile_cons, List.dropWhile_cons, h.1]
    simp only [if_true]
    exact ⟨by rw [this.1], this.2⟩
theorem parts_text (xs : List (List UInt8)) : partsL (textL xs) = some xs := by
  induction xs with
  | nil => exact partsL_nil
  | cons x xs ih =>
    have e : textL (x :: xs) = 47 :: (encL ndT codeT x ++ textL xs) := by simp [textL]
    rw [e, partsL_cons, (text_tw x xs).1, (text_tw x xs).2, untilde_enc, Option.bind_some, ih]
    rfl
theorem parse_text (xs : List (List UInt8)) : parseL (textL xs) = some xs := by
  rw [parseL, if_pos, parts_text]
  cases xs with
  | nil => exact .inl rfl
  | cons x xs => right; simp [textL]
end Go.Proofs.YtkbkedknoahhgaaDoor

namespace Go.Proofs.YtkbkedknoahhgaaDoor
open Go.RowKit
attribute [local go_sem] setCell_drewN alloc_drewN

/-- It is a number. -/
def IntR (r : Ending) : Prop := ∃ c, r = .returned (.int .i64 c)
set_option maxRecDepth 100000 in
set_option maxHeartbeats 800000 in
theorem check6_any (v : JV) (f : Nat → Value) (w : World) (hs : Sm v) (hz : Sz v) (hv : VI w (fun _ => False) v f) :
    Calls Tryd.prog 5 #[.agg #[f 0, f 1, f 2, f 3, f 4, f 5, f 6]] w fun r w' => IntR r ∧ Below w.heap.size w w' := by
  have hr : ∀ w', Below w.heap.size w w' → Calls Tryd.prog 15 #[.agg #[f 0, f 1, f 2, f 3, f 4, f 5, f 6], .int .i64 10000] w' fun r w2 => BoolR r ∧ Below w'.heap.size w' w2 := fun w' hb => right_any v hs hz f w' 10000 (hv.kept hb)
  obtain ⟨k, n, g, e, t, la, lm, lc, ka, km, kc, f0, f1, f2, f3, f4, f5, f6⟩ := hv.shape
  rw [f0, f1, f2, f3, f4, f5, f6] at hr ⊢
  clear hv f0 f1 f2 f3 f4 f5 f6 hs hz
  go_enter Tryd.func5, Tryd.ntmps5
  go_wp2_with fail
  refine (hr _ (bl_a (Below.refl _ _) _)).mono ?_
  rintro r w1 ⟨⟨b, rfl⟩, hb1⟩
  have hbel : Below w.heap.size w w1 := bl_t (bl_a (Below.refl _ _) _) hb1
  clear hr hb1
  cases b
  · go_wp2
    go_ret
    exact ⟨⟨_, rfl⟩, hbel⟩
  · go_wp2
    go_ret
    exact ⟨⟨_, rfl⟩, hbel⟩
/-- A pointer goes on from where another one leads. -/
theorem findJ_append : ∀ (a b : List (List UInt8)) (v : JV), findJ v (a ++ b) = (findJ v a).bind fun u => findJ u b
  | [], b, v => rfl
  | p :: a, b, v => by
    rw [List.cons_append, findJ, findJ]
    cases h : plc v p with
    | none => rfl
    | some i => exact findJ_append a b _
theorem findR_text (v : JV) (a : List (List UInt8)) : findR v (textL a) = match findJ v a with | none => (zeroJ, 71) | some u => (u, 0) := by
  simp only [findR, parse_text]
  cases findJ v a <;> rfl
theorem findJ_sm : ∀ (a : List (List UInt8)) (v u : JV), Sm v → findJ v a = some u → Sm u
  | [], v, u, hs, h => by rw [findJ] at h; injection h with h; subst h; exact hs
  | p :: a, v, u, hs, h => by
    cases hp : plc v p with
    | none => rw [findJ, hp] at h; cases h
    | some i =>
      have hb := plc_bd hp
      obtain ⟨j, rfl⟩ : ∃ j : Nat, i = (j : Int) := ⟨i.toNat, by omega⟩
      have hj : j < v.list.length := by omega
      rw [findJ_step hp hj] at h
      exact findJ_sm a _ u (hs.get j hj) h
end Go.Proofs.YtkbkedknoahhgaaDoor
