/-
  A sorted row, each number once. No condition.
-/
import Derived.Test.YtnlgeiofkfkhbaaJoined21
namespace Go.Proofs.Ytnlgeiofkfkhbaa
open Go.RowKit Go.Maps Lg

theorem compact_up (d : Array Int) (hs : ∀ i j, i ≤ j → j < d.size → d[i]! ≤ d[j]!) : ∀ m, m ≤ d.size → (Lib.compactUpTo d m).Pairwise (· < ·) ∧ (∀ x, x ∈ Lib.compactUpTo d m ↔ ∃ j, j < m ∧ d[j]! = x)
 | 0, _ => ⟨by simp [Lib.compactUpTo], fun x => by simp [Lib.compactUpTo]⟩
 | m + 1, hm => by
  obtain ⟨h1, h2⟩ := compact_up d hs m (by omega)
  rw [Lib.compactUpTo_succ]
  by_cases hk : Lib.keeps d m = true
  ·rw [if_pos hk]
   refine ⟨?_, fun x => ?_⟩
   ·rw [List.pairwise_append]
    refine ⟨h1, by simp, fun a ha b hb => ?_⟩
    have hb : b = d[m]! := by simpa using hb
    subst hb
    obtain ⟨j, hj, rfl⟩ := (h2 a).1 ha
    have hm0 : m ≠ 0 := by omega
    have hne : d[m]! ≠ d[m - 1]! := by
     intro e
     unfold Lib.keeps at hk
     simp [hm0, e] at hk
    have k1 := hs j (m - 1) (by omega) (by omega)
    have k2 := hs (m - 1) m (by omega) (by omega)
    omega
   ·rw [List.mem_append, h2]
    constructor
    ·rintro (⟨j, hj, e⟩ | h)
     ·exact ⟨j, by omega, e⟩
     ·exact ⟨m, by omega, by simp at h; exact h.symm⟩
    ·rintro ⟨j, hj, e⟩
     by_cases k : j = m
     ·subst k; exact .inr (by simp [e])
     ·exact .inl ⟨j, by omega, e⟩
  ·rw [if_neg hk, List.append_nil]
   refine ⟨h1, fun x => ?_⟩
   rw [h2]
   have hm0 : m ≠ 0 := by
    intro e
    subst e
    exact hk (by unfold Lib.keeps; simp)
   have he : d[m]! = d[m - 1]! := by
    unfold Lib.keeps at hk
    simp [hm0] at hk
    exact hk
   constructor
   ·rintro ⟨j, hj, e⟩
    exact ⟨j, by omega, e⟩
   ·rintro ⟨j, hj, e⟩
    by_cases k : j = m
    ·subst k; exact ⟨j - 1, by omega, by rw [← he]; exact e⟩
    ·exact ⟨j, by omega, e⟩
/-- What sorting and leaving out what is twice makes of some numbers. -/
theorem compact_sort (A : List Nat) : ∃ nums : List Nat, Lib.compact ((il A).mergeSort fun x y => decide (x ≤ y)) = il nums ∧ nums.Pairwise (· < ·) ∧ ∀ x, x ∈ nums ↔ x ∈ A := by
 generalize hz : ((il A).mergeSort fun x y => decide (x ≤ y)) = zs
 have hperm : zs.Perm (il A) := hz ▸ List.mergeSort_perm _ _
 have hsort : zs.Pairwise (· ≤ ·) := by
  have := List.pairwise_mergeSort (le := fun (x y : Int) => decide (x ≤ y)) (fun a b c h1 h2 => by simp at *; omega) (fun a b => by simp; omega) (il A)
  rw [hz] at this
  exact this.imp fun h => by simpa using h
 have hget : ∀ i (h : i < zs.length), zs.toArray[i]! = zs[i] := fun i h => by simp [h]
 obtain ⟨h1, h2⟩ := compact_up zs.toArray (fun i j hij hj => by
  have hj' : j < zs.length := by simpa using hj
  rw [hget i (by omega), hget j hj']
  rcases Nat.lt_or_eq_of_le hij with h | h
  ·exact List.pairwise_iff_getElem.1 hsort i j (by omega) hj' h
  ·subst h; exact Int.le_refl _) zs.length (by simp)
 have hmem : ∀ x, x ∈ Lib.compact zs ↔ x ∈ il A := fun x => by
  show x ∈ Lib.compactUpTo zs.toArray zs.length ↔ _
  rw [h2, ← hperm.mem_iff, List.mem_iff_getElem]
  constructor
  ·rintro ⟨j, hj, e⟩
   exact ⟨j, hj, by rw [← hget j hj]; exact e⟩
  ·rintro ⟨j, hj, e⟩
   exact ⟨j, hj, by rw [hget j hj]; exact e⟩
 have hnn : ∀ x ∈ Lib.compact zs, 0 ≤ x := fun x hx => by
  have := (hmem x).1 hx
  unfold il at this
  obtain ⟨y, _, rfl⟩ := List.mem_map.1 this
  omega
 refine ⟨(Lib.compact zs).map Int.toNat, ?_, ?_, fun x => ?_⟩
 ·unfold il
  rw [List.map_map]
  symm
  rw [List.map_congr_left (g := id) (fun x hx => by have := hnn x hx; simp; omega), List.map_id]
 ·rw [List.pairwise_map]
  refine (List.Pairwise.imp_of_mem (fun {a b} ha hb h => ?_) (show (Lib.compact zs).Pairwise (· < ·) from h1))
  have h3 := hnn a ha
  have h4 := hnn b hb
  omega
 ·rw [List.mem_map]
  constructor
  ·rintro ⟨y, hy, rfl⟩
   have := (hmem y).1 hy
   unfold il at this
   obtain ⟨z, hz, rfl⟩ := List.mem_map.1 this
   simpa using hz
  ·intro hx
   exact ⟨(x : Int), (hmem _).2 (by unfold il; exact List.mem_map.2 ⟨x, hx, rfl⟩), by simp⟩
end Go.Proofs.Ytnlgeiofkfkhbaa
