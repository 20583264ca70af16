/-
  RxGroups' walk, where both texts are patterns, short and with few parentheses. Conditions: the table of greatest code points holds its four numbers.
-/
import Derived.Test.YtannjmgnbfbpjaaDoorXG3
import Derived.Test.YtannjmgnbfbpjaaDoorX17
namespace Go.Proofs.YtannjmgnbfbpjaaDoor
open Go.RowKit
attribute [local go_sem] setCell_drewN alloc_drewN

theorem count_snoc (s : ByteArray) (k : Nat) (h : k < s.size) : (s.data.toList.take (k + 1)).count 40 = (s.data.toList.take k).count 40 + (if s[k] = 40 then 1 else 0) := by
  rw [take_snoc s k h, List.count_append, List.count_singleton]
  simp
set_option maxHeartbeats 800000 in
theorem deep_any (s : ByteArray) (w : World) (hs : s.size ≤ 1099511627776) :
    Calls Tryd.prog 14 #[.string s] w fun e w' => e = .returned (.bool (decide (190 < s.data.toList.count 40))) ∧ w' = w := by
  have hsI : (s.size : Int) ≤ 1099511627776 := by omega
  go_enter Tryd.func14, Tryd.ntmps14
  go_wp2
  go_loop [3, 4] (fun n i => ∃ k : Nat, k ≤ s.size ∧ i = .int .i64 k ∧ n = .int .i64 (((s.data.toList.take k).count 40 : Nat) : Int)) (fun _ i => s.size - (intOf i).toNat)
  case atStart => exact ⟨0, Nat.zero_le _, rfl, rfl⟩
  case round =>
    obtain ⟨k, hk, rfl, rfl⟩ := hrel
    have hcn : (s.data.toList.take k).count 40 ≤ k := Nat.le_trans List.count_le_length (List.length_take_le _ _)
    by_cases hlt : k < s.size
    · have hcs := count_snoc s k hlt
      have hI : (k : Int) < (s.size : Int) := by omega
      by_cases hf : s[k] = 40
      · rw [if_pos hf] at hcs
        have HS := hid_intro hcs
        have hf2 : (((s[k]'hlt).toNat : Nat) : Int) = 40 := by rw [hf]; rfl
        clear hcs
        go_wp2
        go_round
        case rel => exact ⟨k + 1, by omega, by go_num, by rw [HS.out]; rfl⟩
        case measure => simp [intOf]; omega
      · rw [if_neg hf] at hcs
        have HS := hid_intro hcs
        have hf2 : ¬ (((s[k]'hlt).toNat : Nat) : Int) = 40 := fun e => hf (UInt8.toNat_inj.1 (show (s[k]'hlt).toNat = 40 by omega))
        clear hcs
        go_wp2
        go_round
        case rel => exact ⟨k + 1, by omega, by go_num, by rw [HS.out]; rfl⟩
        case measure => simp [intOf]; omega
    · have e : s.data.toList.take k = s.data.toList := List.take_of_length_le (by simp; omega)
      go_wp2
      go_ret
      refine ⟨ret_bool ?_, rfl⟩
      rw [decide_eq_decide]
      omega
theorem deep_no (s : ByteArray) (w : World) (hs : s.size ≤ 1099511627776) (h : s.data.toList.count 40 ≤ 190) : Calls Tryd.prog 14 #[.string s] w fun e w' => e = .returned (.bool false) ∧ w' = w := by
  have := deep_any s w hs
  rw [decide_eq_false (by omega)] at this
  exact this
theorem deep_yes (s : ByteArray) (w : World) (hs : s.size ≤ 1099511627776) (h : ¬ s.data.toList.count 40 ≤ 190) : Calls Tryd.prog 14 #[.string s] w fun e w' => e = .returned (.bool true) ∧ w' = w := by
  have := deep_any s w hs
  rw [decide_eq_true (by omega)] at this
  exact this
/-- What stands in a tree of two. -/
theorem open_two {w : World} {X : Nat → Prop} {k : Int} {x y : RX} {f : Nat → Value} (h : XI w X (.mk k [] 0 0 false [x, y]) f) : ∃ pr pq pb po pp, ∃ G0 G1 : Nat → Value, xa f = .agg #[.int .i64 k, .slice pr 0 pq, .int .i64 0, .int .i64 0, .bool false, .slice (some ⟨pb, po, none⟩) 2 pp] ∧ (∀ j, j < 6 → w.cell? ⟨pb, po + j, none⟩ = some (G0 j)) ∧ (∀ j, j < 6 → w.cell? ⟨pb, po + 6 + j, none⟩ = some (G1 j)) ∧ XI w X x G0 ∧ XI w X y G1 ∧ pb < w.heap.size := by
  cases h with
  | mk ao cap G f0 f1 f2 f3 f4 f5 hc hw hl hr =>
    rcases hl with hl | ⟨b, off, rfl, _, hcell⟩
    · simp at hl
    obtain ⟨a1, c1, e1, _⟩ := f1.shape
    refine ⟨a1, c1, b, off, cap, G 0, G 1, by unfold xa; rw [f0, e1, f2, f3, f4, f5]; rfl, fun j hj => ?_, fun j hj => ?_, hr 0 (by simp), hr 1 (by simp), World.block_lt_of_cell? w _ (hcell 0 (by simp) 0 (by omega))⟩
    · have := hcell 0 (by simp) j hj
      simpa using this
    · have := hcell 1 (by simp) j hj
      simpa using this
theorem same_L {t : RX} {f f' : Nat → Value} {w : World} {X Y : Nat → Prop} {A : Value} (hv : XI w X t f) (hv' : XI w Y t f') (e : xa f' = A) : Calls Tryd.prog 15 #[.agg #[f 0, f 1, f 2, f 3, f 4, f 5], A] w fun r w' => r = .returned (.bool true) ∧ Below w.heap.size w w' := by
  subst e; exact same_refl t f f' w X Y hv hv'
theorem same_LL {t : RX} {f f' : Nat → Value} {w : World} {X Y : Nat → Prop} {A B : Value} (hv : XI w X t f) (hv' : XI w Y t f') (e : xa f = A) (e' : xa f' = B) : Calls Tryd.prog 15 #[A, B] w fun r w' => r = .returned (.bool true) ∧ Below w.heap.size w w' := by
  subst e e'; exact same_refl t f f' w X Y hv hv'
theorem seq_size (a b : ByteArray) : (seqT a b).size = 3 + a.size + 2 + b.size + 1 := by unfold seqT; simp only [ByteArray.size_append]; rfl
theorem alt_size (a b : ByteArray) : (altT a b).size = 1 + a.size + 5 + b.size + 1 := by unfold altT; simp only [ByteArray.size_append]; rfl
theorem in_size (a : ByteArray) : (inT a).size = 4 + a.size + 2 := by unfold inT; simp only [ByteArray.size_append]; rfl
end Go.Proofs.YtannjmgnbfbpjaaDoor
