/-
  What strconv.FormatInt answers at base 16: a number's digits of 16. Conditions: the number is below 65536; the library's table for trailing noughts as the program lays it.
-/
import Derived.Test.YtppilokmgdpnnaaGreatDoorJoined7
import Derived.Laws.IdiomStrings
import Derived.Laws.Bits64b
namespace Go.Proofs.YtppilokmgdpnnaaGreatDoor
open Go.RowKit
attribute [local go_sem] setCell_drewN alloc_drewN

def hxd (d : Nat) : UInt8 := if d < 10 then (48 + d).toUInt8 else (87 + d).toUInt8
def hexL (u : Nat) : List UInt8 := if _h : u < 16 then [hxd u] else hexL (u / 16) ++ [hxd (u % 16)]
termination_by u
decreasing_by omega
theorem hexL_lo {u : Nat} (h : u < 16) : hexL u = [hxd u] := by unfold hexL; rw [dif_pos h]
theorem hexL_hi {u : Nat} (h : ¬ u < 16) : hexL u = hexL (u / 16) ++ [hxd (u % 16)] := by conv => lhs; unfold hexL
                                                                                          rw [dif_neg h]
theorem tz64_any (w : World) (ht : w.cell? ⟨4, 15, none⟩ = some (.int .u8 4)) :
    Calls Tryz.prog 151 #[.int .u64 16] w fun r w' => r = .returned (.int .i64 4) ∧ w = w' := by
  have h1 : IntKind.u64.wrap (-16) = 18446744073709551600 := by decide
  have h2 : bits .and .u64 16 18446744073709551600 = 16 := by decide
  have h3 : IntKind.u64.wrap (16 * 285870213051353865) = 4573923408821661840 := by decide
  have h4 : (4573923408821661840 : Int) / 288230376151711744 = 15 := by decide
  go_enter Tryz.func151, Tryz.ntmps151
  go_wp2_with fail
  go_ret
  exact ⟨rfl, rfl⟩
theorem tz_any (w : World) (ht : w.cell? ⟨4, 15, none⟩ = some (.int .u8 4)) :
    Calls Tryz.prog 147 #[.int .u64 16] w fun r w' => r = .returned (.int .i64 4) ∧ w = w' := by
  have h := tz64_any w ht
  clear ht
  go_enter Tryz.func147, Tryz.ntmps147
  go_wp2_with fail
  refine h.mono ?_; rintro r w1 ⟨rfl, rfl⟩
  go_wp2_with fail
  go_ret
  exact ⟨rfl, rfl⟩
theorem ip_any (w : World) :
    Calls Tryz.prog 146 #[.int .i64 16] w fun r w' => r = .returned (.bool true) ∧ w = w' := by
  have h1 : bits .and .i64 16 15 = 0 := by decide
  go_enter Tryz.func146, Tryz.ntmps146
  go_wp2_with fail
  go_ret
  exact ⟨rfl, rfl⟩
/-- An array of 65 bytes whose last ones are these. -/
def AR (w : World) (b : Nat) (D : List UInt8) : Prop := ∃ cs : Array Value, Bk w b cs ∧ cs.size = 65 ∧ D.length ≤ 65 ∧ ∀ j (h : j < D.length), cs[65 - D.length + j]? = some (.int .u8 ((D[j]).toNat : Int))
theorem AR.set {w : World} {b : Nat} {D : List UInt8} (h : AR w b D) (c : UInt8) (hl : D.length < 65) : AR (w.setCell ⟨b, 64 - D.length, none⟩ (.int .u8 (c.toNat : Int))) b (c :: D) := by
  obtain ⟨cs, h1, h2, h3, h4⟩ := h
  refine ⟨_, h1.set (64 - D.length) _ rfl, by simp [h2], by simp; omega, fun j hj => ?_⟩
  rw [Array.getElem?_setIfInBounds]
  rw [List.length_cons] at hj ⊢
  cases j with
  | zero =>
    rw [if_pos (by omega), if_pos (by omega)]
    rfl
  | succ j =>
    rw [if_neg (by omega)]
    have := h4 j (by omega)
    rw [show 65 - (D.length + 1) + (j + 1) = 65 - D.length + j by omega, this]
    rfl
theorem AR.at {w : World} {b : Nat} {D : List UInt8} (h : AR w b D) (i : Nat) (hi : i < 65) : (∃ v, w.cell? ⟨b, i, none⟩ = some v) ∧ w.frozen? ⟨b, i, none⟩ = false := by
  obtain ⟨cs, h1, h2, _, _⟩ := h
  refine ⟨⟨cs[i]'(by omega), ?_⟩, h1.frz i⟩
  rw [h1.cell i, Array.getElem?_eq_getElem (by omega)]
theorem AR.get {w : World} {b : Nat} {D : List UInt8} (h : AR w b D) (j : Nat) (hj : j < D.length) : w.cell? ⟨b, 65 - D.length + j, none⟩ = some (.int .u8 ((D[j]).toNat : Int)) := by
  obtain ⟨cs, h1, _, _, h4⟩ := h
  rw [h1.cell]; exact h4 j hj
theorem hxd_at (d : Nat) (hd : d < 16) : ∀ h, (((⟨#[48, 49, 50, 51, 52, 53, 54, 55, 56, 57, 97, 98, 99, 100, 101, 102, 103, 104, 105, 106, 107, 108, 109, 110, 111, 112, 113, 114, 115, 116, 117, 118, 119, 120, 121, 122]⟩ : ByteArray)[d]'h).toNat : Int) = ((hxd d).toNat : Int) := by
  have : d = 0 ∨ d = 1 ∨ d = 2 ∨ d = 3 ∨ d = 4 ∨ d = 5 ∨ d = 6 ∨ d = 7 ∨ d = 8 ∨ d = 9 ∨ d = 10 ∨ d = 11 ∨ d = 12 ∨ d = 13 ∨ d = 14 ∨ d = 15 := by omega
  rcases this with rfl | rfl | rfl | rfl | rfl | rfl | rfl | rfl | rfl | rfl | rfl | rfl | rfl | rfl | rfl | rfl <;> exact fun _ => rfl
theorem u64_and15 (a : Nat) (h : a < 65536) : bits .and .u64 (a : Int) 15 = ((a % 16 : Nat) : Int) := by
  have h1 := bits_and_u64_nat a 15 (by omega) (by omega)
  have e : a &&& 15 = a % 16 := Nat.and_two_pow_sub_one_eq_mod a 4
  rw [e] at h1
  exact h1
set_option maxRecDepth 100000 in
set_option maxHeartbeats 1600000 in
theorem fbits_any (u : Nat) (hu : u < 65536) (w : World) (ht : w.cell? ⟨4, 15, none⟩ = some (.int .u8 4)) :
    Calls Tryz.prog 136 #[.slice none 0 0, .int .u64 (u : Int), .int .i64 16, .bool false, .bool false] w fun r w' => r = .returned (.tuple #[.slice none 0 0, .string ⟨(hexL u).toArray⟩]) ∧ Below w.heap.size w w' := by
  obtain ⟨P, hP⟩ : ∃ P : Ending → World → Prop, P = fun r w' => r = .returned (.tuple #[.slice none 0 0, .string ⟨(hexL u).toArray⟩]) ∧ Below w.heap.size w w' := ⟨_, rfl⟩
  rw [← hP]
  have HP := hid_intro hP
  have hip := fun w' => ip_any w'
  have hBA : Below w.heap.size w (w.alloc (.cells Tryz.zeroCells152 152)) := vb_a (Below.refl _ _) _
  have htz := tz_any _ ((hBA.cell (p := ⟨4, 15, none⟩) (World.block_lt_of_cell? w _ ht)).trans ht)
  have HA0 : Hid (AR (w.alloc (.cells Tryz.zeroCells152 152)) w.heap.size []) := hid_intro ⟨_, Bk.new _ _ _, by kernel_rfl, by simp, fun j hj => by simp at hj⟩
  have HBA := hid_intro hBA
  have HU := hid_intro hu
  clear hP ht hBA hu
  go_enter Tryz.func136, Tryz.ntmps136
  go_wp2_with fail
  refine (hip _).mono ?_; rintro r w1 ⟨rfl, rfl⟩
  go_wp2_with fail
  refine htz.mono ?_
  rintro r w1 ⟨rfl, rfl⟩
  clear hip htz
  go_wp2_with fail
  generalize w.alloc (.cells Tryz.zeroCells152 152) = W at *
  go_loopg [1, 13] u (fun m s1 s13 wr => ∃ (v : Nat) (D : List UInt8), v = m ∧ s1 = .int .u64 (v : Int) ∧ s13 = .int .i64 (65 - (D.length : Int)) ∧ Hid (hexL u = hexL v ++ D ∧ v < 65536 ∧ v * 16 ^ D.length ≤ u ∧ D.length ≤ 4 ∧ AR wr w.heap.size D ∧ Below w.heap.size w wr))
  case atStart => exact ⟨u, [], rfl, rfl, rfl, by simp, HU.out, by simp, by simp, HA0.out, HBA.out⟩
  case round =>
    obtain ⟨v, D, rfl, rfl, rfl, HI⟩ := hrel
    have hDl := HI.out.2.2.2.1
    obtain ⟨⟨x0, hx0⟩, hf0⟩ := HI.out.2.2.2.2.1.at (64 - D.length) (by omega)
    have hI1 : (65 - (D.length : Int)) - 1 = ((64 - D.length : Nat) : Int) := by omega
    have hw1 : wrap64 (65 - (D.length : Int) - 1) = ((64 - D.length : Nat) : Int) := by rw [w64 (by omega) (by omega)]; omega
    have hlt : ((64 - D.length : Nat) : Int) < 65 := by omega
    by_cases hv : v < 16
    · have hvI : ¬ (16 : Int) ≤ (v : Int) := by omega
      have hxd' := hxd_at v hv
      have HAR := hid_intro (HI.out.2.2.2.2.1.set (hxd v) (by omega))
      have HE : Hid (hexL u = hxd v :: D) := hid_intro (by rw [HI.out.1, hexL_lo hv]; rfl)
      have HBF : Hid (Below w.heap.size w (wr.setCell ⟨w.heap.size, 64 - D.length, none⟩ (.int .u8 ((hxd v).toNat : Int)))) := hid_intro (vb_s HI.out.2.2.2.2.2 (Nat.le_refl _) _)
      have hal : Tryz.prog.arrayLen 152 = 65 := by simp [Program.arrayLen, Tryz.underlying152]
      have hsl : ∀ W, (Instr.sliceAt 152 (.pointer (some ⟨w.heap.size, 0, none⟩)) (some (.int .i64 ((64 - D.length : Nat) : Int))) none none).run Tryz.prog W = .ok (.slice (some ⟨w.heap.size, 64 - D.length, none⟩) (D.length + 1) (D.length + 1)) W := fun W => by
        rw [run_sliceAt_array_l W 152 ⟨w.heap.size, 0, none⟩ (by simp [Program.arrayLen, Program.elem, Tryz.underlying152]) .i64 _ (by omega) (by rw [hal]; omega), hal]
        go_simp
        omega
      have hcv : (convert 40 9 (.slice (some ⟨w.heap.size, 64 - D.length, none⟩) (D.length + 1) (D.length + 1))).run Tryz.prog (wr.setCell ⟨w.heap.size, 64 - D.length, none⟩ (.int .u8 ((hxd v).toNat : Int))) = .ok (.string ⟨(hexL u).toArray⟩) (wr.setCell ⟨w.heap.size, 64 - D.length, none⟩ (.int .u8 ((hxd v).toNat : Int))) := by
        have h := run_convert_bytes_back (P := Tryz.prog) (wr.setCell ⟨w.heap.size, 64 - D.length, none⟩ (.int .u8 ((hxd v).toNat : Int))) 40 9 5 ⟨w.heap.size, 64 - D.length, none⟩ (D.length + 1) (hxd v :: D) Tryz.underlying40 Tryz.underlying5 Tryz.underlying9 (fun j hj => by
          have := HAR.out.get j hj
          rw [List.length_cons] at this
          rw [add_at, show 64 - D.length + j = 65 - (D.length + 1) + j by omega]
          exact this)
        rw [List.length_cons] at h
        rw [HE.out]
        exact h
      have hlt2 : (v : Int) < 36 := by omega
      clear hv hDl HE HAR hal
      go_wp2_with fail
      rw [HP.out]
      exact ⟨rfl, HBF.out⟩
    · have hvI : (16 : Int) ≤ (v : Int) := by omega
      have ha := u64_and15 v HI.out.2.1
      have hxd' := hxd_at (v % 16) (Nat.mod_lt _ (by omega))
      have hlt2 : ((v % 16 : Nat) : Int) < 36 := by omega
      have HD := hid_intro (show ((v : Int) / 16) = ((v / 16 : Nat) : Int) by omega)
      have HAR := hid_intro (HI.out.2.2.2.2.1.set (hxd (v % 16)) (by omega))
      have HE : Hid (hexL u = hexL (v / 16) ++ (hxd (v % 16) :: D)) := hid_intro (by rw [HI.out.1, hexL_hi hv, List.append_assoc]; rfl)
      have HBF : Hid (Below w.heap.size w (wr.setCell ⟨w.heap.size, 64 - D.length, none⟩ (.int .u8 ((hxd (v % 16)).toNat : Int)))) := hid_intro (vb_s HI.out.2.2.2.2.2 (Nat.le_refl _) _)
      have HV := hid_intro (And.intro hv (And.intro HI.out.2.1 HI.out.2.2.1))
      have hsh : ∀ W, (Op.shift .shr .u64 (v : Int) .u64 4).run Tryz.prog W = .ok (.int .u64 ((v : Int) / 16)) W := fun W => by
        rw [shift_shr .u64 .u64 (v : Int) 4 (by omega) (by decide)]; rfl
      have HLN : Hid (D.length + 1 ≤ 4) := hid_intro (by
        obtain ⟨h1, h2, h3⟩ := HV.out
        have h4 : D.length = 0 ∨ D.length = 1 ∨ D.length = 2 ∨ D.length = 3 ∨ D.length = 4 := by omega
        rcases h4 with h | h | h | h | h
        · omega
        · omega
        · omega
        · omega
        · rw [h] at h3
          have := HU.out
          omega)
      have HML : Hid (v / 16 * 16 ^ (D.length + 1) ≤ u) := hid_intro (by
        have h3 := HV.out.2.2
        rw [Nat.pow_succ, ← Nat.mul_assoc, Nat.mul_right_comm]
        exact Nat.le_trans (Nat.mul_le_mul_right _ (Nat.div_mul_le_self v 16)) h3)
      generalize v % 16 = q at *
      clear hv hDl
      go_wp2_with fail
      go_roundg (v / 16)
      case measure => have := HV.out.1; omega
      case rel => exact ⟨v / 16, hxd q :: D, rfl, by rw [HD.out], by rw [List.length_cons]; congr 1; have := HLN.out; omega, HE.out, by have := HV.out.2.1; omega, by rw [List.length_cons]; exact HML.out, by rw [List.length_cons]; exact HLN.out, HAR.out, HBF.out⟩
set_option maxHeartbeats 400000 in
theorem ifmt16_any (u : Nat) (hu : u < 65536) (w : World) (ht : w.cell? ⟨4, 15, none⟩ = some (.int .u8 4)) :
    Calls Tryz.prog 116 #[.int .i64 (u : Int), .int .i64 16] w fun r w' => r = .returned (.string ⟨(hexL u).toArray⟩) ∧ Below w.heap.size w w' := by
  have h := fbits_any u hu w ht
  have h1 : IntKind.u64.wrap (u : Int) = (u : Int) := by simp [IntKind.wrap, IntKind.bits, IntKind.signed]; omega
  have h2 : ¬ (u : Int) < 0 := by omega
  clear ht hu
  go_enter Tryz.func116, Tryz.ntmps116
  go_wp2_with fail
  refine h.mono ?_; rintro r w1 ⟨rfl, hb⟩
  go_wp2_with fail
  go_ret
  exact ⟨rfl, hb⟩
set_option maxHeartbeats 400000 in
theorem fmt16_any (u : Nat) (hu : u < 65536) (w : World) (ht : w.cell? ⟨4, 15, none⟩ = some (.int .u8 4)) :
    Calls Tryz.prog 106 #[.int .i64 (u : Int), .int .i64 16] w fun r w' => r = .returned (.string ⟨(hexL u).toArray⟩) ∧ Below w.heap.size w w' := by
  have h := ifmt16_any u hu w ht
  clear ht hu
  go_enter Tryz.func106, Tryz.ntmps106
  go_wp2_with fail
  refine h.mono ?_; rintro r w1 ⟨rfl, hb⟩
  go_wp2_with fail
  go_ret
  exact ⟨rfl, hb⟩
set_option maxHeartbeats 400000 in
theorem hexText_any (u : Nat) (hu : u < 65536) (w : World) (ht : w.cell? ⟨4, 15, none⟩ = some (.int .u8 4)) :
    Calls Tryz.prog 86 #[.int .i64 (u : Int)] w fun r w' => r = .returned (.string ⟨(hexL u).toArray⟩) ∧ Below w.heap.size w w' := by
  have h := fmt16_any u hu w ht
  clear ht hu
  go_enter Tryz.func86, Tryz.ntmps86
  go_wp2_with fail
  refine h.mono ?_; rintro r w1 ⟨rfl, hb⟩
  go_wp2_with fail
  go_ret
  exact ⟨rfl, hb⟩
end Go.Proofs.YtppilokmgdpnnaaGreatDoor
