/-
  What pointer.placeOf and pointer.Find answer. Conditions: lists of at most 2^30; at most 2^40 bytes.
-/
import Derived.Test.YtkbkedknoahhgaaDoorJoined25
namespace Go.Proofs.YtkbkedknoahhgaaDoor
open Go.RowKit
attribute [local go_sem] setCell_drewN alloc_drewN

/-- The place to which a part leads. -/
def plc : JV → List UInt8 → Option Int
  | .mk k n g e t l ks, p => if k = 5 then nbL p l.length else if k = 6 then (kix (bs p) (ks.take (elN (.mk k n g e t l ks))) 0).map (fun i => (i : Int)) else none
theorem kp_nb (o : Option Nat) : kpV o = nbV (o.map (fun i => (i : Int))) := by cases o <;> rfl

set_option maxRecDepth 100000 in
set_option maxHeartbeats 800000 in
theorem placeOf_any (v : JV) (f : Nat → Value) (X : Nat → Prop) (p : ByteArray) (w : World) (hv : VI w X v f) (hs : Sm v) (hp : p.size ≤ 1099511627776) :
    Calls Tryd.prog 18 #[.agg #[f 0, f 1, f 2, f 3, f 4, f 5, f 6], .string p] w fun r w' => r = .returned (nbV (plc v p.data.toList)) ∧ Below w.heap.size w w' := by
  cases hs with
  | @mk k n g e t l ks s1 s2 s3 =>
  cases hv with
  | mk ao cap G f0 f1 f2 f3 f4 f5 f6 hc hsz hw hl hr =>
  obtain ⟨ko, kc, e6, k1, k2, k3, k4⟩ := f6
  rw [f0, f1, f2, f3, f4, f5, e6]
  clear f0 f1 f2 f3 f4 f5 e6 hw hl hr hsz s3
  by_cases h5 : k = 5
  · subst h5
    have hb := fun w' => below_any p l.length w' hp s1
    have HE : Hid (plc (.mk 5 n g e t l ks) p.data.toList = nbL p.data.toList l.length) := by show _ = _; simp [plc]
    clear k3 k4
    generalize nbL p.data.toList l.length = K at *
    cases K
    all_goals
      simp only [nbV] at hb
      go_enter Tryd.func18, Tryd.ntmps18
      go_wp2_with (go_at_call 35; refine (hb _).mono ?_; rintro r w' ⟨rfl, rfl⟩)
      go_ret2
      exact ⟨by rw [HE.out]; rfl, bl_a (Below.refl _ _) _⟩
  · have h5' : (k == 5) = false := beq_eq_false_iff_ne.2 h5
    by_cases h6 : k = 6
    · subst h6
      have hk0 : ko = none → ks = [] := fun h => by
        rcases k4 with h4 | ⟨b, off, h4, _⟩
        · exact h4
        · rw [h] at h4; cases h4
      have hb : ∀ w', Below w.heap.size w w' → Calls Tryd.prog 36 #[.agg #[.int .i64 6, .bool n, .string g, .int .i64 e, .string t, .slice ao l.length cap, .slice ko ks.length kc], .string p] w' fun r w2 => r = .returned (kpV (kix p (ks.take (elN (.mk 6 n g e t l ks))) 0)) ∧ Below w'.heap.size w' w2 := fun w' hbb => keyPlace_any n g e t l ks ao ko cap kc p w' s2 k1 k2 hk0 (by
        rcases k4 with h4 | ⟨b, off, h4, _, h6⟩
        · exact .inl h4
        · exact .inr ⟨b, off, h4, fun i hi => by rw [hbb.cell (p := ⟨b, off + i, none⟩) (World.block_lt_of_cell? w _ (h6 i hi))]; exact h6 i hi⟩)
      have HE : Hid (plc (.mk 6 n g e t l ks) p.data.toList = (kix p (ks.take (elN (.mk 6 n g e t l ks))) 0).map (fun i => (i : Int))) := by show _ = _; simp only [plc, bs_self]; rfl
      clear k3 k4 hk0
      generalize kix p (ks.take (elN (.mk 6 n g e t l ks))) 0 = K at *
      cases K
      all_goals
        simp only [kpV] at hb
        go_enter Tryd.func18, Tryd.ntmps18
        go_wp2_with (go_at_call 36; refine (hb _ (bl_a (Below.refl _ _) _)).mono ?_; rintro r w' ⟨rfl, hb'⟩)
        go_ret2
        exact ⟨by rw [HE.out]; rfl, bl_t (bl_a (Below.refl _ _) _) hb'⟩
    · have h6' : (k == 6) = false := beq_eq_false_iff_ne.2 h6
      have HE : Hid (plc (.mk k n g e t l ks) p.data.toList = none) := by show _ = _; simp [plc, h5, h6]
      clear k3 k4 h5 h6
      go_enter Tryd.func18, Tryd.ntmps18
      go_wp2
      go_ret2
      exact ⟨by rw [HE.out]; rfl, bl_a (Below.refl _ _) _⟩
theorem nbF_bd {m : Int} : ∀ (l : List UInt8) (n i : Int), 0 ≤ n → n < m ∨ l ≠ [] → nbF m l n = some i → 0 ≤ i ∧ i < m
  | [], n, i, h0, h1, h => by
    rw [nbF] at h; injection h with h; subst h
    rcases h1 with h1 | h1
    · exact ⟨h0, h1⟩
    · exact absurd rfl h1
  | c :: t, n, i, h0, _, h => by
    rw [nbF] at h
    split at h
    · rename_i hw
      have := (wi_iff _ _ _).1 hw
      split at h
      · cases h
      · exact nbF_bd t _ i (by omega) (.inl (by omega)) h
    · cases h
theorem plc_bd {v : JV} {p : List UInt8} {i : Int} (h : plc v p = some i) : 0 ≤ i ∧ i < (v.list.length : Int) := by
  obtain ⟨k, n, g, e, t, l, ks⟩ := v
  rw [plc] at h
  split at h
  · rw [nbL] at h
    split at h
    · cases h
    · rename_i hne
      exact nbF_bd p 0 i (by omega) (.inr (fun e => hne (.inl e))) h
  · split at h
    · cases hk : kix (bs p) (ks.take (elN (.mk k n g e t l ks))) 0 with
      | none => rw [hk] at h; cases h
      | some j =>
        rw [hk] at h
        have h : some (j : Int) = some i := h
        injection h with h
        subst h
        have := kix_ge _ _ _ hk
        rw [List.length_take] at this
        rename_i h5 h6
        have he : elN (.mk k n g e t l ks) ≤ l.length := by subst h6; simp [elN]; omega
        show 0 ≤ (j : Int) ∧ (j : Int) < (l.length : Int)
        omega
    · cases h
/-- What stands where. -/
def findJ : JV → List (List UInt8) → Option JV
  | v, [] => some v
  | v, p :: ps => match plc v p with
    | some i => findJ (v.list.getD i.toNat v) ps
    | none => none
def zeroJ : JV := .mk 0 false ⟨#[]⟩ 0 ⟨#[]⟩ [] []
def findR (v : JV) (l : List UInt8) : JV × Int := match parseL l with
  | none => (zeroJ, 70)
  | some ps => match findJ v ps with
    | none => (zeroJ, 71)
    | some u => (u, 0)
def zf : Nat → Value := fun j => match j with | 0 => .int .i64 0 | 1 => .bool false | 2 => .string ⟨#[]⟩ | 3 => .int .i64 0 | 4 => .string ⟨#[]⟩ | 5 => .slice none 0 0 | _ => .slice none 0 0
theorem zeroVI (w : World) (X : Nat → Prop) : VI w X zeroJ zf :=
  VI.mk none 0 (fun _ _ => .nilIface) rfl rfl rfl rfl rfl rfl ⟨none, 0, rfl, Nat.le_refl _, by unfold maxLen; omega, fun s hs => absurd hs (by simp), .inl rfl⟩ ⟨Nat.le_refl _, by unfold maxLen; omega⟩ ⟨by decide, by decide⟩ ⟨by decide, by decide⟩ (.inl rfl) (fun i h => absurd h (by simp))
theorem Sm.get {v : JV} (h : Sm v) (i : Nat) (hi : i < v.list.length) : Sm v.list[i] := by
  cases h with
  | mk h1 h2 h3 => exact h3 _ (List.getElem_mem hi)
end Go.Proofs.YtkbkedknoahhgaaDoor
