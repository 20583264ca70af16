/-
  What ref8.Text answers. Conditions: at most 2^46 bytes together.
-/
import Derived.Test.YtgmigdfkdioalaaUR2
namespace Go.Proofs.Ytgmigdfkdioalaa
open Go.RowKit
attribute [local go_sem] setCell_drewN alloc_drewN

set_option maxRecDepth 100000 in
set_option maxHeartbeats 3200000 in
theorem rtext_any (u : Ur) (w : World) (hs : usum u ≤ 70368744177664) :
    Calls Try.prog 14 #[uV u] w fun e w' => e = .returned (.string (bs (textL u))) ∧ Below w.heap.size w w' := by
  obtain ⟨sch, auth, path, q, frag, hA, hQ, hF⟩ := u
  simp only [usum] at hs
  have HT : Hid (textL ⟨sch, auth, path, q, frag, hA, hQ, hF⟩ = (if !sch.isEmpty then sch ++ [58] else []) ++ (if hA then [47, 47] ++ auth else []) ++ path ++ (if hQ then [63] ++ q else []) ++ (if hF then [35] ++ frag else [])) := rfl
  have E1 := emp_bs sch
  have zs := bs_size sch
  have za := bs_size auth
  have zp := bs_size path
  have zq := bs_size q
  have zf := bs_size frag
  generalize sch.isEmpty = se at *
  simp only [uV, uc]
  cases se
  · cases hA
    · cases hQ
      · cases hF
        · obtain ⟨x1, hx1⟩ : ∃ x, x = sch ++ ([58] : List UInt8) := ⟨_, rfl⟩
          have rx1 : bs sch ++ ByteArray.mk #[58] = bs x1 := by rw [hx1]; exact bs_add sch ([58] : List UInt8)
          have lx1 : x1.length = sch.length + ([58] : List UInt8).length := by rw [hx1, List.length_append]
          have cx1 : ¬ 9223372036854775807 < sch.length + 1 := by simp only [List.length_cons, List.length_nil] at *; omega
          have zx1 := bs_size x1
          obtain ⟨x2, hx2⟩ : ∃ x, x = x1 ++ path := ⟨_, rfl⟩
          have rx2 : bs x1 ++ bs path = bs x2 := by rw [hx2]; exact bs_add x1 path
          have lx2 : x2.length = x1.length + path.length := by rw [hx2, List.length_append]
          have cx2 : ¬ 9223372036854775807 < x1.length + path.length := by simp only [List.length_cons, List.length_nil] at *; omega
          have zx2 := bs_size x2
          have HE : Hid (textL ⟨sch, auth, path, q, frag, false, false, false⟩ = x2) := by
            show _ = _
            rw [HT.out, hx2, hx1]
            simp
          clear HT hx1 lx1 hx2 lx2
          go_enter Try.func14, Try.ntmps14
          go_wp2
          go_ret
          exact ⟨r_str HE.out.symm, bl_a (Below.refl _ _) _⟩
        · obtain ⟨x1, hx1⟩ : ∃ x, x = sch ++ ([58] : List UInt8) := ⟨_, rfl⟩
          have rx1 : bs sch ++ ByteArray.mk #[58] = bs x1 := by rw [hx1]; exact bs_add sch ([58] : List UInt8)
          have lx1 : x1.length = sch.length + ([58] : List UInt8).length := by rw [hx1, List.length_append]
          have cx1 : ¬ 9223372036854775807 < sch.length + 1 := by simp only [List.length_cons, List.length_nil] at *; omega
          have zx1 := bs_size x1
          obtain ⟨x2, hx2⟩ : ∃ x, x = x1 ++ path := ⟨_, rfl⟩
          have rx2 : bs x1 ++ bs path = bs x2 := by rw [hx2]; exact bs_add x1 path
          have lx2 : x2.length = x1.length + path.length := by rw [hx2, List.length_append]
          have cx2 : ¬ 9223372036854775807 < x1.length + path.length := by simp only [List.length_cons, List.length_nil] at *; omega
          have zx2 := bs_size x2
          obtain ⟨x3, hx3⟩ : ∃ x, x = x2 ++ ([35] : List UInt8) := ⟨_, rfl⟩
          have rx3 : bs x2 ++ ByteArray.mk #[35] = bs x3 := by rw [hx3]; exact bs_add x2 ([35] : List UInt8)
          have lx3 : x3.length = x2.length + ([35] : List UInt8).length := by rw [hx3, List.length_append]
          have cx3 : ¬ 9223372036854775807 < x2.length + 1 := by simp only [List.length_cons, List.length_nil] at *; omega
          have zx3 := bs_size x3
          obtain ⟨x4, hx4⟩ : ∃ x, x = x3 ++ frag := ⟨_, rfl⟩
          have rx4 : bs x3 ++ bs frag = bs x4 := by rw [hx4]; exact bs_add x3 frag
          have lx4 : x4.length = x3.length + frag.length := by rw [hx4, List.length_append]
          have cx4 : ¬ 9223372036854775807 < x3.length + frag.length := by simp only [List.length_cons, List.length_nil] at *; omega
          have zx4 := bs_size x4
          have HE : Hid (textL ⟨sch, auth, path, q, frag, false, false, true⟩ = x4) := by
            show _ = _
            rw [HT.out, hx4, hx3, hx2, hx1]
            simp
          clear HT hx1 lx1 hx2 lx2 hx3 lx3 hx4 lx4
          go_enter Try.func14, Try.ntmps14
          go_wp2
          go_ret
          exact ⟨r_str HE.out.symm, bl_a (Below.refl _ _) _⟩
      · cases hF
        · obtain ⟨x1, hx1⟩ : ∃ x, x = sch ++ ([58] : List UInt8) := ⟨_, rfl⟩
          have rx1 : bs sch ++ ByteArray.mk #[58] = bs x1 := by rw [hx1]; exact bs_add sch ([58] : List UInt8)
          have lx1 : x1.length = sch.length + ([58] : List UInt8).length := by rw [hx1, List.length_append]
          have cx1 : ¬ 9223372036854775807 < sch.length + 1 := by simp only [List.length_cons, List.length_nil] at *; omega
          have zx1 := bs_size x1
          obtain ⟨x2, hx2⟩ : ∃ x, x = x1 ++ path := ⟨_, rfl⟩
          have rx2 : bs x1 ++ bs path = bs x2 := by rw [hx2]; exact bs_add x1 path
          have lx2 : x2.length = x1.length + path.length := by rw [hx2, List.length_append]
          have cx2 : ¬ 9223372036854775807 < x1.length + path.length := by simp only [List.length_cons, List.length_nil] at *; omega
          have zx2 := bs_size x2
          obtain ⟨x3, hx3⟩ : ∃ x, x = x2 ++ ([63] : List UInt8) := ⟨_, rfl⟩
          have rx3 : bs x2 ++ ByteArray.mk #[63] = bs x3 := by rw [hx3]; exact bs_add x2 ([63] : List UInt8)
          have lx3 : x3.length = x2.length + ([63] : List UInt8).length := by rw [hx3, List.length_append]
          have cx3 : ¬ 9223372036854775807 < x2.length + 1 := by simp only [List.length_cons, List.length_nil] at *; omega
          have zx3 := bs_size x3
          obtain ⟨x4, hx4⟩ : ∃ x, x = x3 ++ q := ⟨_, rfl⟩
          have rx4 : bs x3 ++ bs q = bs x4 := by rw [hx4]; exact bs_add x3 q
          have lx4 : x4.length = x3.length + q.length := by rw [hx4, List.length_append]
          have cx4 : ¬ 9223372036854775807 < x3.length + q.length := by simp only [List.length_cons, List.length_nil] at *; omega
          have zx4 := bs_size x4
          have HE : Hid (textL ⟨sch, auth, path, q, frag, false, true, false⟩ = x4) := by
            show _ = _
            rw [HT.out, hx4, hx3, hx2, hx1]
            simp
          clear HT hx1 lx1 hx2 lx2 hx3 lx3 hx4 lx4
          go_enter Try.func14, Try.ntmps14
          go_wp2
          go_ret
          exact ⟨r_str HE.out.symm, bl_a (Below.refl _ _) _⟩
        · obtain ⟨x1, hx1⟩ : ∃ x, x = sch ++ ([58] : List UInt8) := ⟨_, rfl⟩
          have rx1 : bs sch ++ ByteArray.mk #[58] = bs x1 := by rw [hx1]; exact bs_add sch ([58] : List UInt8)
          have lx1 : x1.length = sch.length + ([58] : List UInt8).length := by rw [hx1, List.length_append]
          have cx1 : ¬ 9223372036854775807 < sch.length + 1 := by simp only [List.length_cons, List.length_nil] at *; omega
          have zx1 := bs_size x1
          obtain ⟨x2, hx2⟩ : ∃ x, x = x1 ++ path := ⟨_, rfl⟩
          have rx2 : bs x1 ++ bs path = bs x2 := by rw [hx2]; exact bs_add x1 path
          have lx2 : x2.length = x1.length + path.length := by rw [hx2, List.length_append]
          have cx2 : ¬ 9223372036854775807 < x1.length + path.length := by simp only [List.length_cons, List.length_nil] at *; omega
          have zx2 := bs_size x2
          obtain ⟨x3, hx3⟩ : ∃ x, x = x2 ++ ([63] : List UInt8) := ⟨_, rfl⟩
          have rx3 : bs x2 ++ ByteArray.mk #[63] = bs x3 := by rw [hx3]; exact bs_add x2 ([63] : List UInt8)
          have lx3 : x3.length = x2.length + ([63] : List UInt8).length := by rw [hx3, List.length_append]
          have cx3 : ¬ 9223372036854775807 < x2.length + 1 := by simp only [List.length_cons, List.length_nil] at *; omega
          have zx3 := bs_size x3
          obtain ⟨x4, hx4⟩ : ∃ x, x = x3 ++ q := ⟨_, rfl⟩
          have rx4 : bs x3 ++ bs q = bs x4 := by rw [hx4]; exact bs_add x3 q
          have lx4 : x4.length = x3.length + q.length := by rw [hx4, List.length_append]
          have cx4 : ¬ 9223372036854775807 < x3.length + q.length := by simp only [List.length_cons, List.length_nil] at *; omega
          have zx4 := bs_size x4
          obtain ⟨x5, hx5⟩ : ∃ x, x = x4 ++ ([35] : List UInt8) := ⟨_, rfl⟩
          have rx5 : bs x4 ++ ByteArray.mk #[35] = bs x5 := by rw [hx5]; exact bs_add x4 ([35] : List UInt8)
          have lx5 : x5.length = x4.length + ([35] : List UInt8).length := by rw [hx5, List.length_append]
          have cx5 : ¬ 9223372036854775807 < x4.length + 1 := by simp only [List.length_cons, List.length_nil] at *; omega
          have zx5 := bs_size x5
          obtain ⟨x6, hx6⟩ : ∃ x, x = x5 ++ frag := ⟨_, rfl⟩
          have rx6 : bs x5 ++ bs frag = bs x6 := by rw [hx6]; exact bs_add x5 frag
          have lx6 : x6.length = x5.length + frag.length := by rw [hx6, List.length_append]
          have cx6 : ¬ 9223372036854775807 < x5.length + frag.length := by simp only [List.length_cons, List.length_nil] at *; omega
          have zx6 := bs_size x6
          have HE : Hid (textL ⟨sch, auth, path, q, frag, false, true, true⟩ = x6) := by
            show _ = _
            rw [HT.out, hx6, hx5, hx4, hx3, hx2, hx1]
            simp
          clear HT hx1 lx1 hx2 lx2 hx3 lx3 hx4 lx4 hx5 lx5 hx6 lx6
          go_enter Try.func14, Try.ntmps14
          go_wp2
          go_ret
          exact ⟨r_str HE.out.symm, bl_a (Below.refl _ _) _⟩
    · cases hQ
      · cases hF
        · obtain ⟨x1, hx1⟩ : ∃ x, x = sch ++ ([58] : List UInt8) := ⟨_, rfl⟩
          have rx1 : bs sch ++ ByteArray.mk #[58] = bs x1 := by rw [hx1]; exact bs_add sch ([58] : List UInt8)
          have lx1 : x1.length = sch.length + ([58] : List UInt8).length := by rw [hx1, List.length_append]
          have cx1 : ¬ 9223372036854775807 < sch.length + 1 := by simp only [List.length_cons, List.length_nil] at *; omega
          have zx1 := bs_size x1
          obtain ⟨x2, hx2⟩ : ∃ x, x = x1 ++ ([47, 47] : List UInt8) := ⟨_, rfl⟩
          have rx2 : bs x1 ++ ByteArray.mk #[47, 47] = bs x2 := by rw [hx2]; exact bs_add x1 ([47, 47] : List UInt8)
          have lx2 : x2.length = x1.length + ([47, 47] : List UInt8).length := by rw [hx2, List.length_append]
          have cx2 : ¬ 9223372036854775807 < x1.length + 2 := by simp only [List.length_cons, List.length_nil] at *; omega
          have zx2 := bs_size x2
          obtain ⟨x3, hx3⟩ : ∃ x, x = x2 ++ auth := ⟨_, rfl⟩
          have rx3 : bs x2 ++ bs auth = bs x3 := by rw [hx3]; exact bs_add x2 auth
          have lx3 : x3.length = x2.length + auth.length := by rw [hx3, List.length_append]
          have cx3 : ¬ 9223372036854775807 < x2.length + auth.length := by simp only [List.length_cons, List.length_nil] at *; omega
          have zx3 := bs_size x3
          obtain ⟨x4, hx4⟩ : ∃ x, x = x3 ++ path := ⟨_, rfl⟩
          have rx4 : bs x3 ++ bs path = bs x4 := by rw [hx4]; exact bs_add x3 path
          have lx4 : x4.length = x3.length + path.length := by rw [hx4, List.length_append]
          have cx4 : ¬ 9223372036854775807 < x3.length + path.length := by simp only [List.length_cons, List.length_nil] at *; omega
          have zx4 := bs_size x4
          have HE : Hid (textL ⟨sch, auth, path, q, frag, true, false, false⟩ = x4) := by
            show _ = _
            rw [HT.out, hx4, hx3, hx2, hx1]
            simp
          clear HT hx1 lx1 hx2 lx2 hx3 lx3 hx4 lx4
          go_enter Try.func14, Try.ntmps14
          go_wp2
          go_ret
          exact ⟨r_str HE.out.symm, bl_a (Below.refl _ _) _⟩
        · obtain ⟨x1, hx1⟩ : ∃ x, x = sch ++ ([58] : List UInt8) := ⟨_, rfl⟩
          have rx1 : bs sch ++ ByteArray.mk #[58] = bs x1 := by rw [hx1]; exact bs_add sch ([58] : List UInt8)
          have lx1 : x1.length = sch.length + ([58] : List UInt8).length := by rw [hx1, List.length_append]
          have cx1 : ¬ 9223372036854775807 < sch.length + 1 := by simp only [List.length_cons, List.length_nil] at *; omega
          have zx1 := bs_size x1
          obtain ⟨x2, hx2⟩ : ∃ x, x = x1 ++ ([47, 47] : List UInt8) := ⟨_, rfl⟩
          have rx2 : bs x1 ++ ByteArray.mk #[47, 47] = bs x2 := by rw [hx2]; exact bs_add x1 ([47, 47] : List UInt8)
          have lx2 : x2.length = x1.length + ([47, 47] : List UInt8).length := by rw [hx2, List.length_append]
          have cx2 : ¬ 9223372036854775807 < x1.length + 2 := by simp only [List.length_cons, List.length_nil] at *; omega
          have zx2 := bs_size x2
          obtain ⟨x3, hx3⟩ : ∃ x, x = x2 ++ auth := ⟨_, rfl⟩
          have rx3 : bs x2 ++ bs auth = bs x3 := by rw [hx3]; exact bs_add x2 auth
          have lx3 : x3.length = x2.length + auth.length := by rw [hx3, List.length_append]
          have cx3 : ¬ 9223372036854775807 < x2.length + auth.length := by simp only [List.length_cons, List.length_nil] at *; omega
          have zx3 := bs_size x3
          obtain ⟨x4, hx4⟩ : ∃ x, x = x3 ++ path := ⟨_, rfl⟩
          have rx4 : bs x3 ++ bs path = bs x4 := by rw [hx4]; exact bs_add x3 path
          have lx4 : x4.length = x3.length + path.length := by rw [hx4, List.length_append]
          have cx4 : ¬ 9223372036854775807 < x3.length + path.length := by simp only [List.length_cons, List.length_nil] at *; omega
          have zx4 := bs_size x4
          obtain ⟨x5, hx5⟩ : ∃ x, x = x4 ++ ([35] : List UInt8) := ⟨_, rfl⟩
          have rx5 : bs x4 ++ ByteArray.mk #[35] = bs x5 := by rw [hx5]; exact bs_add x4 ([35] : List UInt8)
          have lx5 : x5.length = x4.length + ([35] : List UInt8).length := by rw [hx5, List.length_append]
          have cx5 : ¬ 9223372036854775807 < x4.length + 1 := by simp only [List.length_cons, List.length_nil] at *; omega
          have zx5 := bs_size x5
          obtain ⟨x6, hx6⟩ : ∃ x, x = x5 ++ frag := ⟨_, rfl⟩
          have rx6 : bs x5 ++ bs frag = bs x6 := by rw [hx6]; exact bs_add x5 frag
          have lx6 : x6.length = x5.length + frag.length := by rw [hx6, List.length_append]
          have cx6 : ¬ 9223372036854775807 < x5.length + frag.length := by simp only [List.length_cons, List.length_nil] at *; omega
          have zx6 := bs_size x6
          have HE : Hid (textL ⟨sch, auth, path, q, frag, true, false, true⟩ = x6) := by
            show _ = _
            rw [HT.out, hx6, hx5, hx4, hx3, hx2, hx1]
            simp
          clear HT hx1 lx1 hx2 lx2 hx3 lx3 hx4 lx4 hx5 lx5 hx6 lx6
          go_enter Try.func14, Try.ntmps14
          go_wp2
          go_ret
          exact ⟨r_str HE.out.symm, bl_a (Below.refl _ _) _⟩
      · cases hF
        · obtain ⟨x1, hx1⟩ : ∃ x, x = sch ++ ([58] : List UInt8) := ⟨_, rfl⟩
          have rx1 : bs sch ++ ByteArray.mk #[58] = bs x1 := by rw [hx1]; exact bs_add sch ([58] : List UInt8)
          have lx1 : x1.length = sch.length + ([58] : List UInt8).length := by rw [hx1, List.length_append]
          have cx1 : ¬ 9223372036854775807 < sch.length + 1 := by simp only [List.length_cons, List.length_nil] at *; omega
          have zx1 := bs_size x1
          obtain ⟨x2, hx2⟩ : ∃ x, x = x1 ++ ([47, 47] : List UInt8) := ⟨_, rfl⟩
          have rx2 : bs x1 ++ ByteArray.mk #[47, 47] = bs x2 := by rw [hx2]; exact bs_add x1 ([47, 47] : List UInt8)
          have lx2 : x2.length = x1.length + ([47, 47] : List UInt8).length := by rw [hx2, List.length_append]
          have cx2 : ¬ 9223372036854775807 < x1.length + 2 := by simp only [List.length_cons, List.length_nil] at *; omega
          have zx2 := bs_size x2
          obtain ⟨x3, hx3⟩ : ∃ x, x = x2 ++ auth := ⟨_, rfl⟩
          have rx3 : bs x2 ++ bs auth = bs x3 := by rw [hx3]; exact bs_add x2 auth
          have lx3 : x3.length = x2.length + auth.length := by rw [hx3, List.length_append]
          have cx3 : ¬ 9223372036854775807 < x2.length + auth.length := by simp only [List.length_cons, List.length_nil] at *; omega
          have zx3 := bs_size x3
          obtain ⟨x4, hx4⟩ : ∃ x, x = x3 ++ path := ⟨_, rfl⟩
          have rx4 : bs x3 ++ bs path = bs x4 := by rw [hx4]; exact bs_add x3 path
          have lx4 : x4.length = x3.length + path.length := by rw [hx4, List.length_append]
          have cx4 : ¬ 9223372036854775807 < x3.length + path.length := by simp only [List.length_cons, List.length_nil] at *; omega
          have zx4 := bs_size x4
          obtain ⟨x5, hx5⟩ : ∃ x, x = x4 ++ ([63] : List UInt8) := ⟨_, rfl⟩
          have rx5 : bs x4 ++ ByteArray.mk #[63] = bs x5 := by rw [hx5]; exact bs_add x4 ([63] : List UInt8)
          have lx5 : x5.length = x4.length + ([63] : List UInt8).length := by rw [hx5, List.length_append]
          have cx5 : ¬ 9223372036854775807 < x4.length + 1 := by simp only [List.length_cons, List.length_nil] at *; omega
          have zx5 := bs_size x5
          obtain ⟨x6, hx6⟩ : ∃ x, x = x5 ++ q := ⟨_, rfl⟩
          have rx6 : bs x5 ++ bs q = bs x6 := by rw [hx6]; exact bs_add x5 q
          have lx6 : x6.length = x5.length + q.length := by rw [hx6, List.length_append]
          have cx6 : ¬ 9223372036854775807 < x5.length + q.length := by simp only [List.length_cons, List.length_nil] at *; omega
          have zx6 := bs_size x6
          have HE : Hid (textL ⟨sch, auth, path, q, frag, true, true, false⟩ = x6) := by
            show _ = _
            rw [HT.out, hx6, hx5, hx4, hx3, hx2, hx1]
            simp
          clear HT hx1 lx1 hx2 lx2 hx3 lx3 hx4 lx4 hx5 lx5 hx6 lx6
          go_enter Try.func14, Try.ntmps14
          go_wp2
          go_ret
          exact ⟨r_str HE.out.symm, bl_a (Below.refl _ _) _⟩
        · obtain ⟨x1, hx1⟩ : ∃ x, x = sch ++ ([58] : List UInt8) := ⟨_, rfl⟩
          have rx1 : bs sch ++ ByteArray.mk #[58] = bs x1 := by rw [hx1]; exact bs_add sch ([58] : List UInt8)
          have lx1 : x1.length = sch.length + ([58] : List UInt8).length := by rw [hx1, List.length_append]
          have cx1 : ¬ 9223372036854775807 < sch.length + 1 := by simp only [List.length_cons, List.length_nil] at *; omega
          have zx1 := bs_size x1
          obtain ⟨x2, hx2⟩ : ∃ x, x = x1 ++ ([47, 47] : List UInt8) := ⟨_, rfl⟩
          have rx2 : bs x1 ++ ByteArray.mk #[47, 47] = bs x2 := by rw [hx2]; exact bs_add x1 ([47, 47] : List UInt8)
          have lx2 : x2.length = x1.length + ([47, 47] : List UInt8).length := by rw [hx2, List.length_append]
          have cx2 : ¬ 9223372036854775807 < x1.length + 2 := by simp only [List.length_cons, List.length_nil] at *; omega
          have zx2 := bs_size x2
          obtain ⟨x3, hx3⟩ : ∃ x, x = x2 ++ auth := ⟨_, rfl⟩
          have rx3 : bs x2 ++ bs auth = bs x3 := by rw [hx3]; exact bs_add x2 auth
          have lx3 : x3.length = x2.length + auth.length := by rw [hx3, List.length_append]
          have cx3 : ¬ 9223372036854775807 < x2.length + auth.length := by simp only [List.length_cons, List.length_nil] at *; omega
          have zx3 := bs_size x3
          obtain ⟨x4, hx4⟩ : ∃ x, x = x3 ++ path := ⟨_, rfl⟩
          have rx4 : bs x3 ++ bs path = bs x4 := by rw [hx4]; exact bs_add x3 path
          have lx4 : x4.length = x3.length + path.length := by rw [hx4, List.length_append]
          have cx4 : ¬ 9223372036854775807 < x3.length + path.length := by simp only [List.length_cons, List.length_nil] at *; omega
          have zx4 := bs_size x4
          obtain ⟨x5, hx5⟩ : ∃ x, x = x4 ++ ([63] : List UInt8) := ⟨_, rfl⟩
          have rx5 : bs x4 ++ ByteArray.mk #[63] = bs x5 := by rw [hx5]; exact bs_add x4 ([63] : List UInt8)
          have lx5 : x5.length = x4.length + ([63] : List UInt8).length := by rw [hx5, List.length_append]
          have cx5 : ¬ 9223372036854775807 < x4.length + 1 := by simp only [List.length_cons, List.length_nil] at *; omega
          have zx5 := bs_size x5
          obtain ⟨x6, hx6⟩ : ∃ x, x = x5 ++ q := ⟨_, rfl⟩
          have rx6 : bs x5 ++ bs q = bs x6 := by rw [hx6]; exact bs_add x5 q
          have lx6 : x6.length = x5.length + q.length := by rw [hx6, List.length_append]
          have cx6 : ¬ 9223372036854775807 < x5.length + q.length := by simp only [List.length_cons, List.length_nil] at *; omega
          have zx6 := bs_size x6
          obtain ⟨x7, hx7⟩ : ∃ x, x = x6 ++ ([35] : List UInt8) := ⟨_, rfl⟩
          have rx7 : bs x6 ++ ByteArray.mk #[35] = bs x7 := by rw [hx7]; exact bs_add x6 ([35] : List UInt8)
          have lx7 : x7.length = x6.length + ([35] : List UInt8).length := by rw [hx7, List.length_append]
          have cx7 : ¬ 9223372036854775807 < x6.length + 1 := by simp only [List.length_cons, List.length_nil] at *; omega
          have zx7 := bs_size x7
          obtain ⟨x8, hx8⟩ : ∃ x, x = x7 ++ frag := ⟨_, rfl⟩
          have rx8 : bs x7 ++ bs frag = bs x8 := by rw [hx8]; exact bs_add x7 frag
          have lx8 : x8.length = x7.length + frag.length := by rw [hx8, List.length_append]
          have cx8 : ¬ 9223372036854775807 < x7.length + frag.length := by simp only [List.length_cons, List.length_nil] at *; omega
          have zx8 := bs_size x8
          have HE : Hid (textL ⟨sch, auth, path, q, frag, true, true, true⟩ = x8) := by
            show _ = _
            rw [HT.out, hx8, hx7, hx6, hx5, hx4, hx3, hx2, hx1]
            simp
          clear HT hx1 lx1 hx2 lx2 hx3 lx3 hx4 lx4 hx5 lx5 hx6 lx6 hx7 lx7 hx8 lx8
          go_enter Try.func14, Try.ntmps14
          go_wp2
          go_ret
          exact ⟨r_str HE.out.symm, bl_a (Below.refl _ _) _⟩
  · cases hA
    · cases hQ
      · cases hF
        · obtain ⟨x1, hx1⟩ : ∃ x, x = ([] : List UInt8) ++ path := ⟨_, rfl⟩
          have rx1 : ByteArray.mk #[] ++ bs path = bs x1 := by rw [hx1]; exact bs_add ([] : List UInt8) path
          have lx1 : x1.length = ([] : List UInt8).length + path.length := by rw [hx1, List.length_append]
          have cx1 : ¬ 9223372036854775807 < path.length := by omega
          have zx1 := bs_size x1
          have HE : Hid (textL ⟨sch, auth, path, q, frag, false, false, false⟩ = x1) := by
            show _ = _
            rw [HT.out, hx1]
            simp
          clear HT hx1 lx1
          go_enter Try.func14, Try.ntmps14
          go_wp2
          go_ret
          exact ⟨r_str HE.out.symm, bl_a (Below.refl _ _) _⟩
        · obtain ⟨x1, hx1⟩ : ∃ x, x = ([] : List UInt8) ++ path := ⟨_, rfl⟩
          have rx1 : ByteArray.mk #[] ++ bs path = bs x1 := by rw [hx1]; exact bs_add ([] : List UInt8) path
          have lx1 : x1.length = ([] : List UInt8).length + path.length := by rw [hx1, List.length_append]
          have cx1 : ¬ 9223372036854775807 < path.length := by omega
          have zx1 := bs_size x1
          obtain ⟨x2, hx2⟩ : ∃ x, x = x1 ++ ([35] : List UInt8) := ⟨_, rfl⟩
          have rx2 : bs x1 ++ ByteArray.mk #[35] = bs x2 := by rw [hx2]; exact bs_add x1 ([35] : List UInt8)
          have lx2 : x2.length = x1.length + ([35] : List UInt8).length := by rw [hx2, List.length_append]
          have cx2 : ¬ 9223372036854775807 < x1.length + 1 := by simp only [List.length_cons, List.length_nil] at *; omega
          have zx2 := bs_size x2
          obtain ⟨x3, hx3⟩ : ∃ x, x = x2 ++ frag := ⟨_, rfl⟩
          have rx3 : bs x2 ++ bs frag = bs x3 := by rw [hx3]; exact bs_add x2 frag
          have lx3 : x3.length = x2.length + frag.length := by rw [hx3, List.length_append]
          have cx3 : ¬ 9223372036854775807 < x2.length + frag.length := by simp only [List.length_cons, List.length_nil] at *; omega
          have zx3 := bs_size x3
          have HE : Hid (textL ⟨sch, auth, path, q, frag, false, false, true⟩ = x3) := by
            show _ = _
            rw [HT.out, hx3, hx2, hx1]
            simp
          clear HT hx1 lx1 hx2 lx2 hx3 lx3
          go_enter Try.func14, Try.ntmps14
          go_wp2
          go_ret
          exact ⟨r_str HE.out.symm, bl_a (Below.refl _ _) _⟩
      · cases hF
        · obtain ⟨x1, hx1⟩ : ∃ x, x = ([] : List UInt8) ++ path := ⟨_, rfl⟩
          have rx1 : ByteArray.mk #[] ++ bs path = bs x1 := by rw [hx1]; exact bs_add ([] : List UInt8) path
          have lx1 : x1.length = ([] : List UInt8).length + path.length := by rw [hx1, List.length_append]
          have cx1 : ¬ 9223372036854775807 < path.length := by omega
          have zx1 := bs_size x1
          obtain ⟨x2, hx2⟩ : ∃ x, x = x1 ++ ([63] : List UInt8) := ⟨_, rfl⟩
          have rx2 : bs x1 ++ ByteArray.mk #[63] = bs x2 := by rw [hx2]; exact bs_add x1 ([63] : List UInt8)
          have lx2 : x2.length = x1.length + ([63] : List UInt8).length := by rw [hx2, List.length_append]
          have cx2 : ¬ 9223372036854775807 < x1.length + 1 := by simp only [List.length_cons, List.length_nil] at *; omega
          have zx2 := bs_size x2
          obtain ⟨x3, hx3⟩ : ∃ x, x = x2 ++ q := ⟨_, rfl⟩
          have rx3 : bs x2 ++ bs q = bs x3 := by rw [hx3]; exact bs_add x2 q
          have lx3 : x3.length = x2.length + q.length := by rw [hx3, List.length_append]
          have cx3 : ¬ 9223372036854775807 < x2.length + q.length := by simp only [List.length_cons, List.length_nil] at *; omega
          have zx3 := bs_size x3
          have HE : Hid (textL ⟨sch, auth, path, q, frag, false, true, false⟩ = x3) := by
            show _ = _
            rw [HT.out, hx3, hx2, hx1]
            simp
          clear HT hx1 lx1 hx2 lx2 hx3 lx3
          go_enter Try.func14, Try.ntmps14
          go_wp2
          go_ret
          exact ⟨r_str HE.out.symm, bl_a (Below.refl _ _) _⟩
        · obtain ⟨x1, hx1⟩ : ∃ x, x = ([] : List UInt8) ++ path := ⟨_, rfl⟩
          have rx1 : ByteArray.mk #[] ++ bs path = bs x1 := by rw [hx1]; exact bs_add ([] : List UInt8) path
          have lx1 : x1.length = ([] : List UInt8).length + path.length := by rw [hx1, List.length_append]
          have cx1 : ¬ 9223372036854775807 < path.length := by omega
          have zx1 := bs_size x1
          obtain ⟨x2, hx2⟩ : ∃ x, x = x1 ++ ([63] : List UInt8) := ⟨_, rfl⟩
          have rx2 : bs x1 ++ ByteArray.mk #[63] = bs x2 := by rw [hx2]; exact bs_add x1 ([63] : List UInt8)
          have lx2 : x2.length = x1.length + ([63] : List UInt8).length := by rw [hx2, List.length_append]
          have cx2 : ¬ 9223372036854775807 < x1.length + 1 := by simp only [List.length_cons, List.length_nil] at *; omega
          have zx2 := bs_size x2
          obtain ⟨x3, hx3⟩ : ∃ x, x = x2 ++ q := ⟨_, rfl⟩
          have rx3 : bs x2 ++ bs q = bs x3 := by rw [hx3]; exact bs_add x2 q
          have lx3 : x3.length = x2.length + q.length := by rw [hx3, List.length_append]
          have cx3 : ¬ 9223372036854775807 < x2.length + q.length := by simp only [List.length_cons, List.length_nil] at *; omega
          have zx3 := bs_size x3
          obtain ⟨x4, hx4⟩ : ∃ x, x = x3 ++ ([35] : List UInt8) := ⟨_, rfl⟩
          have rx4 : bs x3 ++ ByteArray.mk #[35] = bs x4 := by rw [hx4]; exact bs_add x3 ([35] : List UInt8)
          have lx4 : x4.length = x3.length + ([35] : List UInt8).length := by rw [hx4, List.length_append]
          have cx4 : ¬ 9223372036854775807 < x3.length + 1 := by simp only [List.length_cons, List.length_nil] at *; omega
          have zx4 := bs_size x4
          obtain ⟨x5, hx5⟩ : ∃ x, x = x4 ++ frag := ⟨_, rfl⟩
          have rx5 : bs x4 ++ bs frag = bs x5 := by rw [hx5]; exact bs_add x4 frag
          have lx5 : x5.length = x4.length + frag.length := by rw [hx5, List.length_append]
          have cx5 : ¬ 9223372036854775807 < x4.length + frag.length := by simp only [List.length_cons, List.length_nil] at *; omega
          have zx5 := bs_size x5
          have HE : Hid (textL ⟨sch, auth, path, q, frag, false, true, true⟩ = x5) := by
            show _ = _
            rw [HT.out, hx5, hx4, hx3, hx2, hx1]
            simp
          clear HT hx1 lx1 hx2 lx2 hx3 lx3 hx4 lx4 hx5 lx5
          go_enter Try.func14, Try.ntmps14
          go_wp2
          go_ret
          exact ⟨r_str HE.out.symm, bl_a (Below.refl _ _) _⟩
    · cases hQ
      · cases hF
        · obtain ⟨x1, hx1⟩ : ∃ x, x = ([] : List UInt8) ++ ([47, 47] : List UInt8) := ⟨_, rfl⟩
          have rx1 : ByteArray.mk #[] ++ ByteArray.mk #[47, 47] = bs x1 := by rw [hx1]; exact bs_add ([] : List UInt8) ([47, 47] : List UInt8)
          have lx1 : x1.length = ([] : List UInt8).length + ([47, 47] : List UInt8).length := by rw [hx1, List.length_append]
          have zx1 := bs_size x1
          obtain ⟨x2, hx2⟩ : ∃ x, x = x1 ++ auth := ⟨_, rfl⟩
          have rx2 : bs x1 ++ bs auth = bs x2 := by rw [hx2]; exact bs_add x1 auth
          have lx2 : x2.length = x1.length + auth.length := by rw [hx2, List.length_append]
          have cx2 : ¬ 9223372036854775807 < x1.length + auth.length := by simp only [List.length_cons, List.length_nil] at *; omega
          have zx2 := bs_size x2
          obtain ⟨x3, hx3⟩ : ∃ x, x = x2 ++ path := ⟨_, rfl⟩
          have rx3 : bs x2 ++ bs path = bs x3 := by rw [hx3]; exact bs_add x2 path
          have lx3 : x3.length = x2.length + path.length := by rw [hx3, List.length_append]
          have cx3 : ¬ 9223372036854775807 < x2.length + path.length := by simp only [List.length_cons, List.length_nil] at *; omega
          have zx3 := bs_size x3
          have HE : Hid (textL ⟨sch, auth, path, q, frag, true, false, false⟩ = x3) := by
            show _ = _
            rw [HT.out, hx3, hx2, hx1]
            simp
          clear HT hx1 lx1 hx2 lx2 hx3 lx3
          go_enter Try.func14, Try.ntmps14
          go_wp2
          go_ret
          exact ⟨r_str HE.out.symm, bl_a (Below.refl _ _) _⟩
        · obtain ⟨x1, hx1⟩ : ∃ x, x = ([] : List UInt8) ++ ([47, 47] : List UInt8) := ⟨_, rfl⟩
          have rx1 : ByteArray.mk #[] ++ ByteArray.mk #[47, 47] = bs x1 := by rw [hx1]; exact bs_add ([] : List UInt8) ([47, 47] : List UInt8)
          have lx1 : x1.length = ([] : List UInt8).length + ([47, 47] : List UInt8).length := by rw [hx1, List.length_append]
          have zx1 := bs_size x1
          obtain ⟨x2, hx2⟩ : ∃ x, x = x1 ++ auth := ⟨_, rfl⟩
          have rx2 : bs x1 ++ bs auth = bs x2 := by rw [hx2]; exact bs_add x1 auth
          have lx2 : x2.length = x1.length + auth.length := by rw [hx2, List.length_append]
          have cx2 : ¬ 9223372036854775807 < x1.length + auth.length := by simp only [List.length_cons, List.length_nil] at *; omega
          have zx2 := bs_size x2
          obtain ⟨x3, hx3⟩ : ∃ x, x = x2 ++ path := ⟨_, rfl⟩
          have rx3 : bs x2 ++ bs path = bs x3 := by rw [hx3]; exact bs_add x2 path
          have lx3 : x3.length = x2.length + path.length := by rw [hx3, List.length_append]
          have cx3 : ¬ 9223372036854775807 < x2.length + path.length := by simp only [List.length_cons, List.length_nil] at *; omega
          have zx3 := bs_size x3
          obtain ⟨x4, hx4⟩ : ∃ x, x = x3 ++ ([35] : List UInt8) := ⟨_, rfl⟩
          have rx4 : bs x3 ++ ByteArray.mk #[35] = bs x4 := by rw [hx4]; exact bs_add x3 ([35] : List UInt8)
          have lx4 : x4.length = x3.length + ([35] : List UInt8).length := by rw [hx4, List.length_append]
          have cx4 : ¬ 9223372036854775807 < x3.length + 1 := by simp only [List.length_cons, List.length_nil] at *; omega
          have zx4 := bs_size x4
          obtain ⟨x5, hx5⟩ : ∃ x, x = x4 ++ frag := ⟨_, rfl⟩
          have rx5 : bs x4 ++ bs frag = bs x5 := by rw [hx5]; exact bs_add x4 frag
          have lx5 : x5.length = x4.length + frag.length := by rw [hx5, List.length_append]
          have cx5 : ¬ 9223372036854775807 < x4.length + frag.length := by simp only [List.length_cons, List.length_nil] at *; omega
          have zx5 := bs_size x5
          have HE : Hid (textL ⟨sch, auth, path, q, frag, true, false, true⟩ = x5) := by
            show _ = _
            rw [HT.out, hx5, hx4, hx3, hx2, hx1]
            simp
          clear HT hx1 lx1 hx2 lx2 hx3 lx3 hx4 lx4 hx5 lx5
          go_enter Try.func14, Try.ntmps14
          go_wp2
          go_ret
          exact ⟨r_str HE.out.symm, bl_a (Below.refl _ _) _⟩
      · cases hF
        · obtain ⟨x1, hx1⟩ : ∃ x, x = ([] : List UInt8) ++ ([47, 47] : List UInt8) := ⟨_, rfl⟩
          have rx1 : ByteArray.mk #[] ++ ByteArray.mk #[47, 47] = bs x1 := by rw [hx1]; exact bs_add ([] : List UInt8) ([47, 47] : List UInt8)
          have lx1 : x1.length = ([] : List UInt8).length + ([47, 47] : List UInt8).length := by rw [hx1, List.length_append]
          have zx1 := bs_size x1
          obtain ⟨x2, hx2⟩ : ∃ x, x = x1 ++ auth := ⟨_, rfl⟩
          have rx2 : bs x1 ++ bs auth = bs x2 := by rw [hx2]; exact bs_add x1 auth
          have lx2 : x2.length = x1.length + auth.length := by rw [hx2, List.length_append]
          have cx2 : ¬ 9223372036854775807 < x1.length + auth.length := by simp only [List.length_cons, List.length_nil] at *; omega
          have zx2 := bs_size x2
          obtain ⟨x3, hx3⟩ : ∃ x, x = x2 ++ path := ⟨_, rfl⟩
          have rx3 : bs x2 ++ bs path = bs x3 := by rw [hx3]; exact bs_add x2 path
          have lx3 : x3.length = x2.length + path.length := by rw [hx3, List.length_append]
          have cx3 : ¬ 9223372036854775807 < x2.length + path.length := by simp only [List.length_cons, List.length_nil] at *; omega
          have zx3 := bs_size x3
          obtain ⟨x4, hx4⟩ : ∃ x, x = x3 ++ ([63] : List UInt8) := ⟨_, rfl⟩
          have rx4 : bs x3 ++ ByteArray.mk #[63] = bs x4 := by rw [hx4]; exact bs_add x3 ([63] : List UInt8)
          have lx4 : x4.length = x3.length + ([63] : List UInt8).length := by rw [hx4, List.length_append]
          have cx4 : ¬ 9223372036854775807 < x3.length + 1 := by simp only [List.length_cons, List.length_nil] at *; omega
          have zx4 := bs_size x4
          obtain ⟨x5, hx5⟩ : ∃ x, x = x4 ++ q := ⟨_, rfl⟩
          have rx5 : bs x4 ++ bs q = bs x5 := by rw [hx5]; exact bs_add x4 q
          have lx5 : x5.length = x4.length + q.length := by rw [hx5, List.length_append]
          have cx5 : ¬ 9223372036854775807 < x4.length + q.length := by simp only [List.length_cons, List.length_nil] at *; omega
          have zx5 := bs_size x5
          have HE : Hid (textL ⟨sch, auth, path, q, frag, true, true, false⟩ = x5) := by
            show _ = _
            rw [HT.out, hx5, hx4, hx3, hx2, hx1]
            simp
          clear HT hx1 lx1 hx2 lx2 hx3 lx3 hx4 lx4 hx5 lx5
          go_enter Try.func14, Try.ntmps14
          go_wp2
          go_ret
          exact ⟨r_str HE.out.symm, bl_a (Below.refl _ _) _⟩
        · obtain ⟨x1, hx1⟩ : ∃ x, x = ([] : List UInt8) ++ ([47, 47] : List UInt8) := ⟨_, rfl⟩
          have rx1 : ByteArray.mk #[] ++ ByteArray.mk #[47, 47] = bs x1 := by rw [hx1]; exact bs_add ([] : List UInt8) ([47, 47] : List UInt8)
          have lx1 : x1.length = ([] : List UInt8).length + ([47, 47] : List UInt8).length := by rw [hx1, List.length_append]
          have zx1 := bs_size x1
          obtain ⟨x2, hx2⟩ : ∃ x, x = x1 ++ auth := ⟨_, rfl⟩
          have rx2 : bs x1 ++ bs auth = bs x2 := by rw [hx2]; exact bs_add x1 auth
          have lx2 : x2.length = x1.length + auth.length := by rw [hx2, List.length_append]
          have cx2 : ¬ 9223372036854775807 < x1.length + auth.length := by simp only [List.length_cons, List.length_nil] at *; omega
          have zx2 := bs_size x2
          obtain ⟨x3, hx3⟩ : ∃ x, x = x2 ++ path := ⟨_, rfl⟩
          have rx3 : bs x2 ++ bs path = bs x3 := by rw [hx3]; exact bs_add x2 path
          have lx3 : x3.length = x2.length + path.length := by rw [hx3, List.length_append]
          have cx3 : ¬ 9223372036854775807 < x2.length + path.length := by simp only [List.length_cons, List.length_nil] at *; omega
          have zx3 := bs_size x3
          obtain ⟨x4, hx4⟩ : ∃ x, x = x3 ++ ([63] : List UInt8) := ⟨_, rfl⟩
          have rx4 : bs x3 ++ ByteArray.mk #[63] = bs x4 := by rw [hx4]; exact bs_add x3 ([63] : List UInt8)
          have lx4 : x4.length = x3.length + ([63] : List UInt8).length := by rw [hx4, List.length_append]
          have cx4 : ¬ 9223372036854775807 < x3.length + 1 := by simp only [List.length_cons, List.length_nil] at *; omega
          have zx4 := bs_size x4
          obtain ⟨x5, hx5⟩ : ∃ x, x = x4 ++ q := ⟨_, rfl⟩
          have rx5 : bs x4 ++ bs q = bs x5 := by rw [hx5]; exact bs_add x4 q
          have lx5 : x5.length = x4.length + q.length := by rw [hx5, List.length_append]
          have cx5 : ¬ 9223372036854775807 < x4.length + q.length := by simp only [List.length_cons, List.length_nil] at *; omega
          have zx5 := bs_size x5
          obtain ⟨x6, hx6⟩ : ∃ x, x = x5 ++ ([35] : List UInt8) := ⟨_, rfl⟩
          have rx6 : bs x5 ++ ByteArray.mk #[35] = bs x6 := by rw [hx6]; exact bs_add x5 ([35] : List UInt8)
          have lx6 : x6.length = x5.length + ([35] : List UInt8).length := by rw [hx6, List.length_append]
          have cx6 : ¬ 9223372036854775807 < x5.length + 1 := by simp only [List.length_cons, List.length_nil] at *; omega
          have zx6 := bs_size x6
          obtain ⟨x7, hx7⟩ : ∃ x, x = x6 ++ frag := ⟨_, rfl⟩
          have rx7 : bs x6 ++ bs frag = bs x7 := by rw [hx7]; exact bs_add x6 frag
          have lx7 : x7.length = x6.length + frag.length := by rw [hx7, List.length_append]
          have cx7 : ¬ 9223372036854775807 < x6.length + frag.length := by simp only [List.length_cons, List.length_nil] at *; omega
          have zx7 := bs_size x7
          have HE : Hid (textL ⟨sch, auth, path, q, frag, true, true, true⟩ = x7) := by
            show _ = _
            rw [HT.out, hx7, hx6, hx5, hx4, hx3, hx2, hx1]
            simp
          clear HT hx1 lx1 hx2 lx2 hx3 lx3 hx4 lx4 hx5 lx5 hx6 lx6 hx7 lx7
          go_enter Try.func14, Try.ntmps14
          go_wp2
          go_ret
          exact ⟨r_str HE.out.symm, bl_a (Below.refl _ _) _⟩
end Go.Proofs.Ytgmigdfkdioalaa
