/-
  RxGroups' walk. Conditions: texts of at most 2^20 bytes each; the table of greatest code points holds its four numbers.
-/
import Derived.Test.YtannjmgnbfbpjaaDoorXG5
namespace Go.Proofs.YtannjmgnbfbpjaaDoor
open Go.RowKit
attribute [local go_sem] setCell_drewN alloc_drewN
set_option maxRecDepth 100000 in
set_option maxHeartbeats 3200000 in
theorem groups_nn (a b : ByteArray) (w : World) (hT : Tab w) (hg0 : 0 < w.heap.size) (hsa : a.size ≤ 1048576) (hsb : b.size ≤ 1048576) (ea : parseS a = none) (eb : parseS b = none) :
    Calls Tryd.prog 5 #[.string a, .string b] w fun r w' => r = .returned (.bool true) ∧ Below w.heap.size w w' := by
  have hpa := fun (s : ByteArray) (t : Option RX) (e : parseS s = t) (hs : s.size ≤ 1099511627776) w' (hb : Below w.heap.size w w') => e ▸ parse_any s w' (hT.below hb) (Nat.lt_of_lt_of_le hg0 hb.size) hs
  have hp1 := fun w' (hb : Below w.heap.size w w') => hpa a _ ea (by omega) w' hb
  have hp2 := fun w' (hb : Below w.heap.size w w') => hpa b _ eb (by omega) w' hb
  have HHD := hid_intro (fun w' (hb : Below w.heap.size w w') => heads_any w' (hT.below hb) (Nat.lt_of_lt_of_le hg0 hb.size))
  have HP1 := hid_intro hp1
  have HP2 := hid_intro hp2
  have ha0 : (0 : Int) ≤ (a.size : Int) := by omega
  have hb0 : (0 : Int) ≤ (b.size : Int) := by omega
  have haI : (a.size : Int) ≤ 1048576 := by omega
  have hbI : (b.size : Int) ≤ 1048576 := by omega
  clear hpa hT hg0 ea eb hp1 hp2
  go_enter Tryd.func5, Tryd.ntmps5
  go_wp2_with fail
  refine (HP1.out _ (Below.refl _ _)).mono ?_; rintro r w1 ⟨hb1, rfl⟩
  have hL1 := vb_a (Below.refl w1.heap.size w1) (.cells #[.int .i64 0, .slice none 0 0, .int .i64 0, .int .i64 0, .bool false, .slice none 0 0] 32)
  go_wp2_with fail
  refine (HP2.out _ (vb_t hb1 hL1)).mono ?_; rintro r w2 ⟨hb2, rfl⟩
  have hL2 := vb_a (Below.refl w2.heap.size w2) (.cells #[.int .i64 0, .slice none 0 0, .int .i64 0, .int .i64 0, .bool false, .slice none 0 0] 32)
  go_wp2_with fail
  refine (HHD.out _ (vb_t (vb_t (vb_t hb1 hL1) hb2) hL2)).mono ?_; rintro r w9 ⟨rfl, hb9⟩
  go_wp2_with fail
  go_ret
  exact ⟨rfl, vb_t (vb_t (vb_t (vb_t hb1 hL1) hb2) hL2) hb9⟩
set_option maxRecDepth 100000 in
set_option maxHeartbeats 3200000 in
theorem groups_ns (a b : ByteArray) (y : RX) (w : World) (hT : Tab w) (hg0 : 0 < w.heap.size) (hsa : a.size ≤ 1048576) (hsb : b.size ≤ 1048576) (ea : parseS a = none) (eb : parseS b = some y) :
    Calls Tryd.prog 5 #[.string a, .string b] w fun r w' => r = .returned (.bool true) ∧ Below w.heap.size w w' := by
  have hpa := fun (s : ByteArray) (t : Option RX) (e : parseS s = t) (hs : s.size ≤ 1099511627776) w' (hb : Below w.heap.size w w') => e ▸ parse_any s w' (hT.below hb) (Nat.lt_of_lt_of_le hg0 hb.size) hs
  have hp1 := fun w' (hb : Below w.heap.size w w') => hpa a _ ea (by omega) w' hb
  have hp2 := fun w' (hb : Below w.heap.size w w') => hpa b _ eb (by omega) w' hb
  have HHD := hid_intro (fun w' (hb : Below w.heap.size w w') => heads_any w' (hT.below hb) (Nat.lt_of_lt_of_le hg0 hb.size))
  have HP1 := hid_intro hp1
  have HP2 := hid_intro hp2
  have ha0 : (0 : Int) ≤ (a.size : Int) := by omega
  have hb0 : (0 : Int) ≤ (b.size : Int) := by omega
  have haI : (a.size : Int) ≤ 1048576 := by omega
  have hbI : (b.size : Int) ≤ 1048576 := by omega
  clear hpa hT hg0 ea eb hp1 hp2
  go_enter Tryd.func5, Tryd.ntmps5
  go_wp2_with fail
  refine (HP1.out _ (Below.refl _ _)).mono ?_; rintro r w1 ⟨hb1, rfl⟩
  have hL1 := vb_a (Below.refl w1.heap.size w1) (.cells #[.int .i64 0, .slice none 0 0, .int .i64 0, .int .i64 0, .bool false, .slice none 0 0] 32)
  go_wp2_with fail
  refine (HP2.out _ (vb_t hb1 hL1)).mono ?_; rintro r w2 ⟨hb2, f2, rfl, hx2⟩
  obtain ⟨yk, ya, yn, yc, yl, yh, yz, yd, ym, ye, ef2⟩ := hx2.lit
  rw [ef2]
  have hL2 := vb_a (Below.refl w2.heap.size w2) (.cells #[.int .i64 yk, .slice ya yn yc, .int .i64 yl, .int .i64 yh, .bool yz, .slice yd ym ye] 32)
  clear ef2 hx2
  go_wp2_with fail
  refine (HHD.out _ (vb_t (vb_t (vb_t hb1 hL1) hb2) hL2)).mono ?_; rintro r w9 ⟨rfl, hb9⟩
  go_wp2_with fail
  go_ret
  exact ⟨rfl, vb_t (vb_t (vb_t (vb_t hb1 hL1) hb2) hL2) hb9⟩
set_option maxRecDepth 100000 in
set_option maxHeartbeats 3200000 in
theorem groups_sn (a b : ByteArray) (x : RX) (w : World) (hT : Tab w) (hg0 : 0 < w.heap.size) (hsa : a.size ≤ 1048576) (hsb : b.size ≤ 1048576) (ea : parseS a = some x) (eb : parseS b = none) :
    Calls Tryd.prog 5 #[.string a, .string b] w fun r w' => r = .returned (.bool true) ∧ Below w.heap.size w w' := by
  have hpa := fun (s : ByteArray) (t : Option RX) (e : parseS s = t) (hs : s.size ≤ 1099511627776) w' (hb : Below w.heap.size w w') => e ▸ parse_any s w' (hT.below hb) (Nat.lt_of_lt_of_le hg0 hb.size) hs
  have hp1 := fun w' (hb : Below w.heap.size w w') => hpa a _ ea (by omega) w' hb
  have hp2 := fun w' (hb : Below w.heap.size w w') => hpa b _ eb (by omega) w' hb
  have HHD := hid_intro (fun w' (hb : Below w.heap.size w w') => heads_any w' (hT.below hb) (Nat.lt_of_lt_of_le hg0 hb.size))
  have HP1 := hid_intro hp1
  have HP2 := hid_intro hp2
  have ha0 : (0 : Int) ≤ (a.size : Int) := by omega
  have hb0 : (0 : Int) ≤ (b.size : Int) := by omega
  have haI : (a.size : Int) ≤ 1048576 := by omega
  have hbI : (b.size : Int) ≤ 1048576 := by omega
  clear hpa hT hg0 ea eb hp1 hp2
  go_enter Tryd.func5, Tryd.ntmps5
  go_wp2_with fail
  refine (HP1.out _ (Below.refl _ _)).mono ?_; rintro r w1 ⟨hb1, f1, rfl, hx1⟩
  obtain ⟨xk, xa, xn, xc, xl, xh, xz, xd, xm, xe, ef1⟩ := hx1.lit
  rw [ef1]
  have hL1 := vb_a (Below.refl w1.heap.size w1) (.cells #[.int .i64 xk, .slice xa xn xc, .int .i64 xl, .int .i64 xh, .bool xz, .slice xd xm xe] 32)
  clear ef1 hx1
  go_wp2_with fail
  refine (HP2.out _ (vb_t hb1 hL1)).mono ?_; rintro r w2 ⟨hb2, rfl⟩
  have hL2 := vb_a (Below.refl w2.heap.size w2) (.cells #[.int .i64 0, .slice none 0 0, .int .i64 0, .int .i64 0, .bool false, .slice none 0 0] 32)
  go_wp2_with fail
  refine (HHD.out _ (vb_t (vb_t (vb_t hb1 hL1) hb2) hL2)).mono ?_; rintro r w9 ⟨rfl, hb9⟩
  go_wp2_with fail
  go_ret
  exact ⟨rfl, vb_t (vb_t (vb_t (vb_t hb1 hL1) hb2) hL2) hb9⟩
set_option maxRecDepth 100000 in
set_option maxHeartbeats 3200000 in
theorem groups_long (a b : ByteArray) (x : RX) (y : RX) (w : World) (hT : Tab w) (hg0 : 0 < w.heap.size) (hsa : a.size ≤ 1048576) (hsb : b.size ≤ 1048576) (ea : parseS a = some x) (eb : parseS b = some y) (hsz : ¬ a.size + b.size ≤ 4000) :
    Calls Tryd.prog 5 #[.string a, .string b] w fun r w' => r = .returned (.bool true) ∧ Below w.heap.size w w' := by
  have hpa := fun (s : ByteArray) (t : Option RX) (e : parseS s = t) (hs : s.size ≤ 1099511627776) w' (hb : Below w.heap.size w w') => e ▸ parse_any s w' (hT.below hb) (Nat.lt_of_lt_of_le hg0 hb.size) hs
  have hp1 := fun w' (hb : Below w.heap.size w w') => hpa a _ ea (by omega) w' hb
  have hp2 := fun w' (hb : Below w.heap.size w w') => hpa b _ eb (by omega) w' hb
  have HHD := hid_intro (fun w' (hb : Below w.heap.size w w') => heads_any w' (hT.below hb) (Nat.lt_of_lt_of_le hg0 hb.size))
  have HP1 := hid_intro hp1
  have HP2 := hid_intro hp2
  have ha0 : (0 : Int) ≤ (a.size : Int) := by omega
  have hb0 : (0 : Int) ≤ (b.size : Int) := by omega
  have haI : (a.size : Int) ≤ 1048576 := by omega
  have hbI : (b.size : Int) ≤ 1048576 := by omega
  have hsI : ¬ (a.size : Int) + (b.size : Int) ≤ 4000 := by omega
  clear hpa hT hg0 ea eb hp1 hp2
  go_enter Tryd.func5, Tryd.ntmps5
  go_wp2_with fail
  refine (HP1.out _ (Below.refl _ _)).mono ?_; rintro r w1 ⟨hb1, f1, rfl, hx1⟩
  obtain ⟨xk, xa, xn, xc, xl, xh, xz, xd, xm, xe, ef1⟩ := hx1.lit
  rw [ef1]
  have hL1 := vb_a (Below.refl w1.heap.size w1) (.cells #[.int .i64 xk, .slice xa xn xc, .int .i64 xl, .int .i64 xh, .bool xz, .slice xd xm xe] 32)
  clear ef1 hx1
  go_wp2_with fail
  refine (HP2.out _ (vb_t hb1 hL1)).mono ?_; rintro r w2 ⟨hb2, f2, rfl, hx2⟩
  obtain ⟨yk, ya, yn, yc, yl, yh, yz, yd, ym, ye, ef2⟩ := hx2.lit
  rw [ef2]
  have hL2 := vb_a (Below.refl w2.heap.size w2) (.cells #[.int .i64 yk, .slice ya yn yc, .int .i64 yl, .int .i64 yh, .bool yz, .slice yd ym ye] 32)
  clear ef2 hx2
  go_wp2_with fail
  refine (HHD.out _ (vb_t (vb_t (vb_t hb1 hL1) hb2) hL2)).mono ?_; rintro r w9 ⟨rfl, hb9⟩
  go_wp2_with fail
  go_ret
  exact ⟨rfl, vb_t (vb_t (vb_t (vb_t hb1 hL1) hb2) hL2) hb9⟩
set_option maxRecDepth 100000 in
set_option maxHeartbeats 3200000 in
theorem groups_da (a b : ByteArray) (x : RX) (y : RX) (w : World) (hT : Tab w) (hg0 : 0 < w.heap.size) (hsa : a.size ≤ 1048576) (hsb : b.size ≤ 1048576) (ea : parseS a = some x) (eb : parseS b = some y) (hsz : a.size + b.size ≤ 4000) (ca : ¬ a.data.toList.count 40 ≤ 190) :
    Calls Tryd.prog 5 #[.string a, .string b] w fun r w' => r = .returned (.bool true) ∧ Below w.heap.size w w' := by
  have hpa := fun (s : ByteArray) (t : Option RX) (e : parseS s = t) (hs : s.size ≤ 1099511627776) w' (hb : Below w.heap.size w w') => e ▸ parse_any s w' (hT.below hb) (Nat.lt_of_lt_of_le hg0 hb.size) hs
  have hp1 := fun w' (hb : Below w.heap.size w w') => hpa a _ ea (by omega) w' hb
  have hp2 := fun w' (hb : Below w.heap.size w w') => hpa b _ eb (by omega) w' hb
  have HHD := hid_intro (fun w' (hb : Below w.heap.size w w') => heads_any w' (hT.below hb) (Nat.lt_of_lt_of_le hg0 hb.size))
  have HP1 := hid_intro hp1
  have HP2 := hid_intro hp2
  have ha0 : (0 : Int) ≤ (a.size : Int) := by omega
  have hb0 : (0 : Int) ≤ (b.size : Int) := by omega
  have haI : (a.size : Int) ≤ 1048576 := by omega
  have hbI : (b.size : Int) ≤ 1048576 := by omega
  have hsI : (a.size : Int) + (b.size : Int) ≤ 4000 := by omega
  have hda := fun w => deep_yes a w (by omega) ca
  clear hpa hT hg0 ea eb hp1 hp2
  go_enter Tryd.func5, Tryd.ntmps5
  go_wp2_with fail
  refine (HP1.out _ (Below.refl _ _)).mono ?_; rintro r w1 ⟨hb1, f1, rfl, hx1⟩
  obtain ⟨xk, xa, xn, xc, xl, xh, xz, xd, xm, xe, ef1⟩ := hx1.lit
  rw [ef1]
  have hL1 := vb_a (Below.refl w1.heap.size w1) (.cells #[.int .i64 xk, .slice xa xn xc, .int .i64 xl, .int .i64 xh, .bool xz, .slice xd xm xe] 32)
  clear ef1 hx1
  go_wp2_with fail
  refine (HP2.out _ (vb_t hb1 hL1)).mono ?_; rintro r w2 ⟨hb2, f2, rfl, hx2⟩
  obtain ⟨yk, ya, yn, yc, yl, yh, yz, yd, ym, ye, ef2⟩ := hx2.lit
  rw [ef2]
  have hL2 := vb_a (Below.refl w2.heap.size w2) (.cells #[.int .i64 yk, .slice ya yn yc, .int .i64 yl, .int .i64 yh, .bool yz, .slice yd ym ye] 32)
  clear ef2 hx2
  go_wp2_with fail
  refine (hda _).mono ?_; rintro r w' ⟨rfl, rfl⟩
  go_wp2_with fail
  refine (HHD.out _ (vb_t (vb_t (vb_t hb1 hL1) hb2) hL2)).mono ?_; rintro r w9 ⟨rfl, hb9⟩
  go_wp2_with fail
  go_ret
  exact ⟨rfl, vb_t (vb_t (vb_t (vb_t hb1 hL1) hb2) hL2) hb9⟩
set_option maxRecDepth 100000 in
set_option maxHeartbeats 3200000 in
theorem groups_db (a b : ByteArray) (x : RX) (y : RX) (w : World) (hT : Tab w) (hg0 : 0 < w.heap.size) (hsa : a.size ≤ 1048576) (hsb : b.size ≤ 1048576) (ea : parseS a = some x) (eb : parseS b = some y) (hsz : a.size + b.size ≤ 4000) (ca : a.data.toList.count 40 ≤ 190) (cb : ¬ b.data.toList.count 40 ≤ 190) :
    Calls Tryd.prog 5 #[.string a, .string b] w fun r w' => r = .returned (.bool true) ∧ Below w.heap.size w w' := by
  have hpa := fun (s : ByteArray) (t : Option RX) (e : parseS s = t) (hs : s.size ≤ 1099511627776) w' (hb : Below w.heap.size w w') => e ▸ parse_any s w' (hT.below hb) (Nat.lt_of_lt_of_le hg0 hb.size) hs
  have hp1 := fun w' (hb : Below w.heap.size w w') => hpa a _ ea (by omega) w' hb
  have hp2 := fun w' (hb : Below w.heap.size w w') => hpa b _ eb (by omega) w' hb
  have HHD := hid_intro (fun w' (hb : Below w.heap.size w w') => heads_any w' (hT.below hb) (Nat.lt_of_lt_of_le hg0 hb.size))
  have HP1 := hid_intro hp1
  have HP2 := hid_intro hp2
  have ha0 : (0 : Int) ≤ (a.size : Int) := by omega
  have hb0 : (0 : Int) ≤ (b.size : Int) := by omega
  have haI : (a.size : Int) ≤ 1048576 := by omega
  have hbI : (b.size : Int) ≤ 1048576 := by omega
  have hsI : (a.size : Int) + (b.size : Int) ≤ 4000 := by omega
  have hda := fun w => deep_no a w (by omega) ca
  have hdb := fun w => deep_yes b w (by omega) cb
  clear hpa hT hg0 ea eb hp1 hp2
  go_enter Tryd.func5, Tryd.ntmps5
  go_wp2_with fail
  refine (HP1.out _ (Below.refl _ _)).mono ?_; rintro r w1 ⟨hb1, f1, rfl, hx1⟩
  obtain ⟨xk, xa, xn, xc, xl, xh, xz, xd, xm, xe, ef1⟩ := hx1.lit
  rw [ef1]
  have hL1 := vb_a (Below.refl w1.heap.size w1) (.cells #[.int .i64 xk, .slice xa xn xc, .int .i64 xl, .int .i64 xh, .bool xz, .slice xd xm xe] 32)
  clear ef1 hx1
  go_wp2_with fail
  refine (HP2.out _ (vb_t hb1 hL1)).mono ?_; rintro r w2 ⟨hb2, f2, rfl, hx2⟩
  obtain ⟨yk, ya, yn, yc, yl, yh, yz, yd, ym, ye, ef2⟩ := hx2.lit
  rw [ef2]
  have hL2 := vb_a (Below.refl w2.heap.size w2) (.cells #[.int .i64 yk, .slice ya yn yc, .int .i64 yl, .int .i64 yh, .bool yz, .slice yd ym ye] 32)
  clear ef2 hx2
  go_wp2_with fail
  refine (hda _).mono ?_; rintro r w' ⟨rfl, rfl⟩
  go_wp2_with fail
  refine (hdb _).mono ?_; rintro r w' ⟨rfl, rfl⟩
  go_wp2_with fail
  refine (HHD.out _ (vb_t (vb_t (vb_t hb1 hL1) hb2) hL2)).mono ?_; rintro r w9 ⟨rfl, hb9⟩
  go_wp2_with fail
  go_ret
  exact ⟨rfl, vb_t (vb_t (vb_t (vb_t hb1 hL1) hb2) hL2) hb9⟩
theorem groups_walk (a b : ByteArray) (w : World) (hT : Tab w) (hg0 : 0 < w.heap.size) (hsa : a.size ≤ 1048576) (hsb : b.size ≤ 1048576) :
    Calls Tryd.prog 5 #[.string a, .string b] w fun r w' => r = .returned (.bool true) ∧ Below w.heap.size w w' := by
  cases ea : parseS a with
  | none =>
    cases eb : parseS b with
    | none => exact groups_nn a b w hT hg0 hsa hsb ea eb
    | some y => exact groups_ns a b y w hT hg0 hsa hsb ea eb
  | some x =>
    cases eb : parseS b with
    | none => exact groups_sn a b x w hT hg0 hsa hsb ea eb
    | some y =>
      by_cases hsz : a.size + b.size ≤ 4000
      · by_cases ca : a.data.toList.count 40 ≤ 190
        · by_cases cb : b.data.toList.count 40 ≤ 190
          · exact groups_ok a b x y w hT hg0 ea eb hsz ca cb
          · exact groups_db a b x y w hT hg0 hsa hsb ea eb hsz ca cb
        · exact groups_da a b x y w hT hg0 hsa hsb ea eb hsz ca
      · exact groups_long a b x y w hT hg0 hsa hsb ea eb hsz
end Go.Proofs.YtannjmgnbfbpjaaDoor
