/-
  What the reference's Turn answers. Conditions: at most 2^30 ranges.
-/
import Derived.Test.YthbbkcdlcpbepaaGreatDoorJoined22
namespace Go.Proofs.YthbbkcdlcpbepaaGreatDoor
open Go.RowKit
attribute [local go_sem] setCell_drewN alloc_drewN

set_option maxRecDepth 100000 in
set_option maxHeartbeats 3200000 in
theorem refTurnN_any (l : List (Int × Int)) (v : Value) (w : World) (X : Nat → Prop) (hR : RI w X l v) (hl : l.length ≤ 1073741824) :
    Calls Tryz.prog 73 #[v] w fun r w' => ∃ v', r = .returned v' ∧ RI w' (· < w.heap.size) (turnL l) v' ∧ Below w.heap.size w w' := by
  have hm := refMergeN_any l v w X hR hl
  have hlen := merge_len l
  have hmok := (merge_can l).ok
  go_enter Tryz.func73, Tryz.ntmps73
  go_wp2_with fail
  refine hm.mono ?_; rintro r w1 ⟨v1, rfl, hri, hb1⟩
  have HTL : Hid (turnG ((mergeL l).drop 0) 0 = turnL l) := hid_intro rfl
  generalize mergeL l = m at *
  obtain ⟨ao, cap, rfl, hc, hcm, hwf, hlie⟩ := hri
  have HB := hid_intro hb1
  have HO := hid_intro hmok
  clear hm hb1 hmok hR
  have hmI : (m.length : Int) ≤ 1073741824 := by omega
  go_wp2_with fail
  go_loopg [3, 5, 6] m.length (fun me s3 s5 s6 wr => ∃ (k : Nat) (out : List (Int × Int)) (f : Int), k ≤ m.length ∧ me = m.length - k ∧ s6 = .int .i64 (k : Int) ∧ s5 = .int .i64 f ∧ out.length ≤ k ∧ Hid (0 ≤ f ∧ f ≤ 1114112) ∧ OwnR wr w1.heap.size s3 out ∧ Hid (out ++ turnG (m.drop k) f = turnL l) ∧ Below w1.heap.size w1 wr)
  case atStart => exact ⟨0, [], 0, Nat.zero_le _, rfl, rfl, rfl, Nat.le_refl _, ⟨by omega, by omega⟩, OwnR.nil _ _, HTL.out, Below.refl _ _⟩
  case round =>
    clear HTL
    obtain ⟨k, out, f, hk, rfl, rfl, rfl, hok, HF, hown, HG, hb⟩ := hrel
    obtain ⟨f0, f1⟩ := HF.out
    by_cases hlt : k < m.length
    · rcases hlie with hlie | ⟨b, off, rfl, _, hcell⟩
      · subst hlie; simp at hlt
      have lt0 := World.block_lt_of_cell? w1 _ (hcell k hlt).1
      have lt1 := World.block_lt_of_cell? w1 _ (hcell k hlt).2
      have q0 := (hb.cell (p := ⟨b, off + k * 2, none⟩) lt0).trans (hcell k hlt).1
      have q1 := (hb.cell (p := ⟨b, off + k * 2 + 1, none⟩) lt1).trans (hcell k hlt).2
      have HC := hid_intro (And.intro (hcell k hlt).1 (hcell k hlt).2)
      have hI : (k : Int) < (m.length : Int) := by omega
      have hokx := HO.out _ (ra_mem hlt)
      have hdr := drop_ra m k hlt
      generalize ra m k = rr at *
      obtain ⟨x, y⟩ := rr
      simp only at q0 q1 HC
      obtain ⟨x0, x1, x2⟩ := hokx
      simp only at x0 x1 x2
      rw [hdr] at HG
      have HOWN := hid_intro hown
      have HBR := hid_intro hb
      have HF2 : Hid (0 ≤ y + 1 ∧ y + 1 ≤ 1114112) := hid_intro (by omega)
      have hB1 := hb.size
      clear hcell hwf hdr hc hcm hown hb HF
      by_cases hfx : f < x
      · have HG2 : Hid (out ++ [(f, x - 1)] ++ turnG (m.drop (k + 1)) (y + 1) = turnL l) := hid_intro (by rw [← HG.out, turnG, if_pos hfx, List.append_assoc]; rfl)
        have hi : I64 f ∧ I64 (x - 1) := ⟨I64_of (by omega) (by omega), I64_of (by omega) (by omega)⟩
        clear HG
        go_wp2_with (at_builtin; refine wpList_append_rngW rfl _ _ rfl w1.heap.size _ out f (x - 1) rfl ?cO ?cB ?cS hi _ rfl (by simp [go_sem]) (by simp [go_sem]) ?_)
        case cO => exact HOWN.out.below (by with_reducible repeat (first | exact Below.refl _ _ | refine vb_d ?_ | refine vb_a ?_ _))
        case cB => first | omega | (simp; omega)
        case cS => omega
        intro v' w3 ho3 hg3
        have hb3 : Below w1.heap.size w1 w3 := (show Below w1.heap.size w1 _ by with_reducible repeat (first | exact HBR.out | refine vb_d ?_ | refine vb_a ?_ _)).grown hg3 (by simp; omega) (fun j hj => (HOWN.out.lt j hj).1)
        have d0 := (hb3.cell (p := ⟨b, off + k * 2, none⟩) lt0).trans HC.out.1
        have d1 := (hb3.cell (p := ⟨b, off + k * 2 + 1, none⟩) lt1).trans HC.out.2
        have HX : Hid (OwnR w3 w1.heap.size v' (out ++ [(f, x - 1)]) ∧ Below w1.heap.size w1 w3) := ⟨ho3, hb3⟩
        clear ho3 hg3 hb3 q0 q1
        go_wp2_with fail
        go_roundg (m.length - (k + 1))
        case measure => omega
        case rel => exact ⟨k + 1, out ++ [(f, x - 1)], y + 1, by omega, rfl, by simp, rfl, by simp; omega, HF2, HX.out.1, HG2, HX.out.2⟩
      · have HG2 : Hid (out ++ turnG (m.drop (k + 1)) (y + 1) = turnL l) := hid_intro (by rw [← HG.out, turnG, if_neg hfx])
        clear HG
        go_wp2_with fail
        go_roundg (m.length - (k + 1))
        case measure => omega
        case rel => exact ⟨k + 1, out, y + 1, by omega, rfl, by simp, rfl, by omega, HF2, HOWN.out, HG2, HBR.out⟩
    · obtain rfl : k = m.length := by omega
      have hI : ¬ ((m.length : Int) < (m.length : Int)) := by omega
      rw [List.drop_length] at HG
      have HOWN := hid_intro hown
      have HBR := hid_intro hb
      have hB1 := hb.size
      clear hown hb HF
      by_cases hft : f ≤ 1114111
      · have HE : Hid (turnL l = out ++ [(f, 1114111)]) := hid_intro (by rw [← HG.out, turnG, if_pos hft])
        have hi : I64 f ∧ I64 1114111 := ⟨I64_of (by omega) (by omega), I64_of (by omega) (by omega)⟩
        clear HG
        go_wp2_with (at_builtin; refine wpList_append_rngW rfl _ _ rfl w1.heap.size _ out f 1114111 rfl ?cO ?cB ?cS hi _ rfl (by simp [go_sem]) (by simp [go_sem]) ?_)
        case cO => exact HOWN.out.below (by with_reducible repeat (first | exact Below.refl _ _ | refine vb_d ?_ | refine vb_a ?_ _))
        case cB => first | omega | (simp; omega)
        case cS => omega
        intro v' w3 ho3 hg3
        have hb3 : Below w1.heap.size w1 w3 := (show Below w1.heap.size w1 _ by with_reducible repeat (first | exact HBR.out | refine vb_d ?_ | refine vb_a ?_ _)).grown hg3 (by simp; omega) (fun j hj => (HOWN.out.lt j hj).1)
        rw [← HE.out] at ho3
        go_wp2_with fail
        go_ret
        exact ⟨_, rfl, ho3.ri _ (fun b hb h => by have := HB.out.size; have h2 : b < w.heap.size := h; omega), vb_t HB.out hb3⟩
      · have HE : Hid (turnL l = out) := hid_intro (by rw [← HG.out, turnG, if_neg hft, List.append_nil])
        clear HG
        go_wp2_with fail
        go_ret
        exact ⟨_, rfl, by rw [HE.out]; exact HOWN.out.ri _ (fun b hb h => by have := HB.out.size; have h2 : b < w.heap.size := h; omega), vb_t HB.out HBR.out⟩
end Go.Proofs.YthbbkcdlcpbepaaGreatDoor
