/-
  The heads of layer 8's statements: what must come at any rate comes. No condition.
-/
import Derived.Test.YtgmigdfkdioalaaUU16
namespace Go.Proofs.Ytgmigdfkdioalaa
open Go.RowKit
attribute [local go_sem] setCell_drewN alloc_drewN

def refsH : List (List UInt8) := [[103], [46, 46, 47, 46, 46, 47, 103], [63, 121], [35, 115], [47, 47, 103], [103, 58, 104], [], [46, 47], [46, 46], [46, 46, 47, 46, 46, 47, 46, 46, 47, 103], [103, 59, 120, 61, 49, 47, 46, 46, 47, 121], [47, 46, 47, 103]]
def wantH : List (List UInt8) := [[104, 116, 116, 112, 58, 47, 47, 97, 47, 98, 47, 99, 47, 103], [104, 116, 116, 112, 58, 47, 47, 97, 47, 103], [104, 116, 116, 112, 58, 47, 47, 97, 47, 98, 47, 99, 47, 100, 59, 112, 63, 121], [104, 116, 116, 112, 58, 47, 47, 97, 47, 98, 47, 99, 47, 100, 59, 112, 63, 113, 35, 115], [104, 116, 116, 112, 58, 47, 47, 103], [103, 58, 104], [104, 116, 116, 112, 58, 47, 47, 97, 47, 98, 47, 99, 47, 100, 59, 112, 63, 113], [104, 116, 116, 112, 58, 47, 47, 97, 47, 98, 47, 99, 47], [104, 116, 116, 112, 58, 47, 47, 97, 47, 98, 47], [104, 116, 116, 112, 58, 47, 47, 97, 47, 103], [104, 116, 116, 112, 58, 47, 47, 97, 47, 98, 47, 99, 47, 121], [104, 116, 116, 112, 58, 47, 47, 97, 47, 103]]
def baseH : List UInt8 := [104, 116, 116, 112, 58, 47, 47, 97, 47, 98, 47, 99, 47, 100, 59, 112, 63, 113]
theorem join_h : ∀ i : Fin 12, joinL baseH (refsH[i.val]?.getD []) = some (wantH[i.val]?.getD []) := by decide +kernel
theorem parse_h : parseL [97, 32, 98] = none := by decide +kernel
theorem dots_h : dotsL [47, 97, 47, 98, 47, 99, 47, 46, 47, 46, 46, 47, 46, 46, 47, 103] = [47, 97, 47, 103] := by decide +kernel
def refsV : Array Value := #[.string ⟨#[103]⟩, .string ⟨#[46, 46, 47, 46, 46, 47, 103]⟩, .string ⟨#[63, 121]⟩, .string ⟨#[35, 115]⟩, .string ⟨#[47, 47, 103]⟩, .string ⟨#[103, 58, 104]⟩, .string ⟨#[]⟩, .string ⟨#[46, 47]⟩, .string ⟨#[46, 46]⟩, .string ⟨#[46, 46, 47, 46, 46, 47, 46, 46, 47, 103]⟩, .string ⟨#[103, 59, 120, 61, 49, 47, 46, 46, 47, 121]⟩, .string ⟨#[47, 46, 47, 103]⟩]
def wantV : Array Value := #[.string ⟨#[104, 116, 116, 112, 58, 47, 47, 97, 47, 98, 47, 99, 47, 103]⟩, .string ⟨#[104, 116, 116, 112, 58, 47, 47, 97, 47, 103]⟩, .string ⟨#[104, 116, 116, 112, 58, 47, 47, 97, 47, 98, 47, 99, 47, 100, 59, 112, 63, 121]⟩, .string ⟨#[104, 116, 116, 112, 58, 47, 47, 97, 47, 98, 47, 99, 47, 100, 59, 112, 63, 113, 35, 115]⟩, .string ⟨#[104, 116, 116, 112, 58, 47, 47, 103]⟩, .string ⟨#[103, 58, 104]⟩, .string ⟨#[104, 116, 116, 112, 58, 47, 47, 97, 47, 98, 47, 99, 47, 100, 59, 112, 63, 113]⟩, .string ⟨#[104, 116, 116, 112, 58, 47, 47, 97, 47, 98, 47, 99, 47]⟩, .string ⟨#[104, 116, 116, 112, 58, 47, 47, 97, 47, 98, 47]⟩, .string ⟨#[104, 116, 116, 112, 58, 47, 47, 97, 47, 103]⟩, .string ⟨#[104, 116, 116, 112, 58, 47, 47, 97, 47, 98, 47, 99, 47, 121]⟩, .string ⟨#[104, 116, 116, 112, 58, 47, 47, 97, 47, 103]⟩]
theorem refs_at (i : Nat) (h : i < 12) : refsV[i]? = some (.string (bs (refsH[i]?.getD []))) := by
  rcases (by omega : i = 0 ∨ i = 1 ∨ i = 2 ∨ i = 3 ∨ i = 4 ∨ i = 5 ∨ i = 6 ∨ i = 7 ∨ i = 8 ∨ i = 9 ∨ i = 10 ∨ i = 11) with rfl | rfl | rfl | rfl | rfl | rfl | rfl | rfl | rfl | rfl | rfl | rfl <;> rfl
theorem want_at (i : Nat) (h : i < 12) : wantV[i]? = some (.string (bs (wantH[i]?.getD []))) := by
  rcases (by omega : i = 0 ∨ i = 1 ∨ i = 2 ∨ i = 3 ∨ i = 4 ∨ i = 5 ∨ i = 6 ∨ i = 7 ∨ i = 8 ∨ i = 9 ∨ i = 10 ∨ i = 11) with rfl | rfl | rfl | rfl | rfl | rfl | rfl | rfl | rfl | rfl | rfl | rfl <;> rfl
theorem refs_len (i : Nat) : (refsH[i]?.getD []).length ≤ 100 := by
  by_cases h : i < 12
  · rcases (by omega : i = 0 ∨ i = 1 ∨ i = 2 ∨ i = 3 ∨ i = 4 ∨ i = 5 ∨ i = 6 ∨ i = 7 ∨ i = 8 ∨ i = 9 ∨ i = 10 ∨ i = 11) with rfl | rfl | rfl | rfl | rfl | rfl | rfl | rfl | rfl | rfl | rfl | rfl <;> decide
  · rw [List.getElem?_eq_none (by show 12 ≤ i; omega)]; decide

set_option maxRecDepth 100000 in
set_option maxHeartbeats 1600000 in
theorem heads_any (w : World) : Calls Try.prog 17 #[] w fun e w' => e = .returned (.bool true) ∧ Below w.heap.size w w' := by
  have hJ : ∀ i w', i < 12 → Calls Try.prog 22 #[.string ⟨#[104, 116, 116, 112, 58, 47, 47, 97, 47, 98, 47, 99, 47, 100, 59, 112, 63, 113]⟩, .string (bs (refsH[i]?.getD []))] w' fun e w2 => e = .returned (.tuple #[.string (bs (wantH[i]?.getD [])), .int .i64 0]) ∧ Below w'.heap.size w' w2 := fun i w' hi => by
    have hr := refs_len i
    have := join_any (bs baseH) (bs (refsH[i]?.getD [])) w' (by decide) (by rw [bs_size]; omega)
    rw [bs_list, bs_list, join_h ⟨i, hi⟩] at this
    exact this
  have hP : ∀ w', ∃ u : Ur, Calls Try.prog 9 #[.string ⟨#[97, 32, 98]⟩] w' fun e w2 => e = .returned (.tuple #[uV u, .int .i64 80]) ∧ Below w'.heap.size w' w2 := fun w' => by
    have := parse_any (bs [97, 32, 98]) w' (by decide)
    rw [bs_list, parse_h] at this
    exact ⟨u0, this⟩
  have hD : ∀ w', Calls Try.prog 20 #[.string ⟨#[47, 97, 47, 98, 47, 99, 47, 46, 47, 46, 46, 47, 46, 46, 47, 103]⟩] w' fun e w2 => e = .returned (.string ⟨#[47, 97, 47, 103]⟩) ∧ Below w'.heap.size w' w2 := fun w' => by
    have := dots_any (bs [47, 97, 47, 98, 47, 99, 47, 46, 47, 46, 46, 47, 46, 46, 47, 103]) w' (by decide)
    rw [bs_list, dots_h] at this
    exact this
  go_enter Try.func17, Try.ntmps17
  go_wp2_with fail
  go_loopw [3] (fun t wr => ∃ i : Nat, i ≤ 12 ∧ t = .int .i64 i ∧ Bk wr w.heap.size refsV ∧ Bk wr (w.heap.size + 1) wantV ∧ Below w.heap.size w wr) (fun t _ => 12 - (intOf t).toNat)
  case atStart => exact ⟨0, by decide, rfl, Bk.al (Bk.new _ _ _) _, Bk.new' _ _ _ _ (by simp), bl_a (bl_a (Below.refl _ _) _) _⟩
  case round =>
    obtain ⟨i, hi, rfl, k0, k1, hbel⟩ := hrel
    by_cases hlt : i < 12
    · have hI : (i : Int) < 12 := by omega
      have h0 : (0 : Int) ≤ (i : Int) := by omega
      have c0 : wr.cell? ⟨w.heap.size, i, none⟩ = some (.string (bs (refsH[i]?.getD []))) := by rw [k0.cell i]; exact refs_at i hlt
      have j1 := hJ i wr hlt
      have cw := want_at i hlt
      generalize refsH[i]?.getD [] = rf at *
      generalize wantH[i]?.getD [] = wt at *
      clear hJ hP hD
      go_wp2_with fail
      refine j1.mono ?_
      rintro e w2 ⟨rfl, hb2⟩
      have k0' := k0.bel hb2
      have k1' := k1.bel hb2
      have hbel2 := bl_t hbel hb2
      have c1 : w2.cell? ⟨w.heap.size + 1, i, none⟩ = some (.string (bs wt)) := by rw [k1'.cell i]; exact cw
      clear c0 j1 k0 k1 hbel hb2 cw
      go_wp2
      go_roundw
      case rel => exact ⟨i + 1, by omega, by go_num, k0', k1', hbel2⟩
      case measure => simp [intOf]; omega
    · have hI : ¬ (i : Int) < 12 := by omega
      clear hJ k0 k1
      obtain ⟨⟨sch, auth, path, q, frag, hA, hQ, hF⟩, p1⟩ := hP wr
      simp only [uV, uc] at p1
      go_wp2_with fail
      refine p1.mono ?_
      rintro e w2 ⟨rfl, hb2⟩
      have hbel2 := bl_t hbel hb2
      clear hb2 hbel hP p1
      go_wp2_with fail
      refine (hD _).mono ?_
      rintro e w3 ⟨rfl, hb3⟩
      have hbel3 := bl_t (bl_a hbel2 _) hb3
      go_wp2
      go_ret
      exact ⟨rfl, hbel3⟩
end Go.Proofs.Ytgmigdfkdioalaa
