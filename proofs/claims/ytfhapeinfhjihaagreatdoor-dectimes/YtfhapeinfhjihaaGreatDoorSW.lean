/-
  What strconv.FormatUint answers at base 10: a number's digits. Conditions: the library's table of powers of ten as the program lays it.
  The text of a number's limbs: plain mathematics. No condition.
  What nat.written and nat.Text answer: a number's digits. Conditions: at most 10^12 limbs; the library's table of powers of ten as the program lays it.
-/
import Derived.Test.YtfhapeinfhjihaaGreatDoorBB1
import Derived.Lib.ItoaMem
import Derived.Lib.AppendIntMem
import Derived.Lib.Walk
import Derived.BigCall
import Derived.BigGuard
import Derived.Test.YtfhapeinfhjihaaGreatDoorL3
import Derived.Test.YtfhapeinfhjihaaGreatDoorA9
import Derived.Test.YtfhapeinfhjihaaGreatDoorS10
import Derived.Test.YtfhapeinfhjihaaGreatDoorA2
namespace Go.Proofs.YtfhapeinfhjihaaGreatDoor
open Go.RowKit Go.Sort

set_option maxHeartbeats 6400000 in
set_option maxRecDepth 100000 in
theorem iformatUint (u : Nat) (hu64 : u < 18446744073709551616) (w : World) (htab : Lib.TabIs Tryz.prog w "internal/strconv.uint64pow10" .u64 Lib.pow10Tab) :
    Calls Tryz.prog 89 #[.int .u64 (u : Int), .int .i64 10] w fun e w' => e = .returned (.string ⟨(Lib.decDigits u).toArray⟩) ∧ Below w.heap.size w w' := by
  by_cases hu : u < 100
  · have iu : (u : Int) < 100 := by omega
    have h1 := Tryz.internal_strconv_small u hu
    go_enter Tryz.func89, Tryz.ntmps89
    go_wp2_with (go_at_call 104; refine (h1 _).mono ?_; rintro e w' ⟨rfl, rfl⟩)
    go_ret
    exact ⟨rfl, Below.refl _ _⟩
  · have hu1 : 1 ≤ u := by omega
    have hnd20 : Lib.nDigits u ≤ 20 := by have := Lib.numDigits_eq u hu1 hu64; split at this <;> omega
    have hal : Tryz.prog.arrayLen 169 = 24 := by simp [Program.arrayLen, Tryz.underlying169]
    have hsl : ∀ W, (Instr.sliceAt 169 (.pointer (some ⟨w.heap.size, 0, none⟩)) none (some (.int .i64 (Lib.nDigits u : Int))) none).run Tryz.prog W = .ok (.slice (some ⟨w.heap.size, 0, none⟩) (Lib.nDigits u) 24) W := fun W => by
      rw [run_sliceAt_array_h W 169 ⟨w.heap.size, 0, none⟩ (by simp [Program.arrayLen, Program.elem, Tryz.underlying169]) .i64 (Lib.nDigits u : Int) (by omega) (by rw [hal]; omega)]
      go_simp
    have hH0 := Lib.holds_zero0 w 169 (Lib.nDigits u) (by omega)
    have hfmt := Tryz.internal_strconv_formatBase10 w.heap.size 0 24 u (Array.replicate (Lib.nDigits u) 0) (w.alloc (.cells Lib.zeros24 169)) hH0 (by rw [Array.size_replicate]; exact Lib.lt_pow_nDigits u) hu64 (by rw [Array.size_replicate]; omega)
    rw [Array.size_replicate] at hfmt
    have HH0 := Lib.hid hH0
    have iu : (100 : Int) ≤ (u : Int) := by omega
    have h2 := Tryz.internal_strconv_numDigits u hu1 hu64 _ (Lib.tabIs_alloc htab (.cells Lib.zeros24 169))
    clear hH0 hal
    go_enter Tryz.func89, Tryz.ntmps89
    go_wp2_with (go_at_call 105; refine h2.mono ?_; rintro e w' ⟨rfl, rfl⟩)
    refine hfmt.mono ?_
    rintro e w' ⟨rfl, k, v', dk, rfl, hF⟩
    have hcv : (convert 106 9 (.slice (some ⟨w.heap.size, 0, none⟩) (Lib.nDigits u) 24)).run Tryz.prog ((putRow (fun (b : UInt8) => Value.int .u8 (b.toNat : Int)) (w.alloc (.cells Lib.zeros24 169)) w.heap.size 0 dk).drewN k) = .ok (.string ⟨(Lib.decDigits u).toArray⟩) ((putRow (fun (b : UInt8) => Value.int .u8 (b.toNat : Int)) (w.alloc (.cells Lib.zeros24 169)) w.heap.size 0 dk).drewN k) := by
      have h := run_convert_bytes_back (P := Tryz.prog) ((putRow (fun (b : UInt8) => Value.int .u8 (b.toNat : Int)) (w.alloc (.cells Lib.zeros24 169)) w.heap.size 0 dk).drewN k) 106 9 5 ⟨w.heap.size, 0, none⟩ 24 (Lib.decDigits u) Tryz.underlying106 Tryz.underlying5 Tryz.underlying9 (fun j hj => by
        rw [Lib.row_is_numeral hF j hj, Lib.add_plain, World.cell?_drewN]
        exact cell?_putRow (fun (b : UInt8) => Value.int .u8 (b.toNat : Int)) _ w.heap.size 0 _ dk HH0.out (by rw [hF.size, Array.size_replicate]) j (by rw [hF.size]; rw [Lib.decDigits_length] at hj; exact hj))
      rw [Lib.decDigits_length] at h
      exact h
    go_wp2
    go_ret
    obtain ⟨os, eo⟩ := Lib.fin_at w (.cells Lib.zeros24 169) dk k 0
    exact ⟨rfl, by rw [eo]; exact below_grow w k os⟩

set_option maxHeartbeats 400000 in
theorem formatUint (u : Nat) (hu64 : u < 18446744073709551616) (w : World) (htab : Lib.TabIs Tryz.prog w "internal/strconv.uint64pow10" .u64 Lib.pow10Tab) :
    Calls Tryz.prog 70 #[.int .u64 (u : Int), .int .i64 10] w fun e w' => e = .returned (.string ⟨(Lib.decDigits u).toArray⟩) ∧ Below w.heap.size w w' := by
  have h1 := iformatUint u hu64 w htab
  clear htab
  go_enter Tryz.func70, Tryz.ntmps70
  go_wp2_with (go_at_call 89; refine h1.mono ?_; rintro e w' ⟨rfl, hb⟩)
  go_ret
  exact ⟨rfl, hb⟩
end Go.Proofs.YtfhapeinfhjihaaGreatDoor

namespace Go.Proofs.YtfhapeinfhjihaaGreatDoor

theorem nDigits_le (k : Nat) : ∀ u, u < 10 ^ (k + 1) → Lib.nDigits u ≤ k + 1 := by
  induction k with
  | zero => intro u h; rw [Lib.nDigits_small (by simpa using h)]; omega
  | succ k ih =>
    intro u h
    by_cases h10 : u < 10
    · rw [Lib.nDigits_small h10]; omega
    · rw [Lib.nDigits_big h10]
      have : u / 10 < 10 ^ (k + 1) := by rw [Nat.pow_succ] at h; omega
      have := ih _ this
      omega
theorem digits9 {u : Nat} (h : u < 1000000000) : (Lib.decDigits u).length ≤ 9 := by
  rw [Lib.decDigits_length]
  exact nDigits_le 8 u h
theorem digits1 (u : Nat) : 1 ≤ (Lib.decDigits u).length := by
  rw [Lib.decDigits_length]
  exact Lib.nDigits_pos u
def pad9 (u : Nat) : List UInt8 := List.replicate (9 - (Lib.decDigits u).length) 48 ++ Lib.decDigits u
theorem rep_all (c : Nat) : (List.replicate c (48 : UInt8)).all isD = true := by
  induction c with
  | zero => rfl
  | succ c ih => rw [List.replicate_succ, List.all_cons, ih]; rfl
theorem rep_num (c : Nat) : num (List.replicate c (48 : UInt8)) = 0 := by
  induction c with
  | zero => rfl
  | succ c ih => rw [List.replicate_succ, num_cons, ih]; simp
theorem pad9_len {u : Nat} (h : u < 1000000000) : (pad9 u).length = 9 := by
  have := digits9 h
  simp [pad9]; omega
theorem pad9_all (u : Nat) : (pad9 u).all isD = true := by
  rw [pad9, List.all_append, rep_all, (decDigits_all u).1]; rfl
theorem pad9_num (u : Nat) : num (pad9 u) = u := by
  rw [pad9, num_append, rep_num, (decDigits_all u).2.1]; simp
/-- The text of the d highest of n limbs. -/
def txd (f : Nat → Int) (n : Nat) : Nat → List UInt8
  | 0 => []
  | d + 1 => txd f n d ++ (if d = 0 then Lib.decDigits (f (n - 1)).toNat else pad9 (f (n - 1 - d)).toNat)
theorem txd_all (f : Nat → Int) (n d : Nat) : (txd f n d).all isD = true := by
  induction d with
  | zero => rfl
  | succ d ih =>
    rw [txd, List.all_append, ih]
    split
    · rw [(decDigits_all _).1]; rfl
    · rw [pad9_all]; rfl
theorem limb_nat {f : Nat → Int} {n i : Nat} (h : Limbs n f) (hi : i < n) : (f i).toNat < 1000000000 ∧ ((f i).toNat : Int) = f i := by
  have := h i hi
  omega
theorem txd_len {f : Nat → Int} {n : Nat} (h : Limbs n f) : ∀ d, d ≤ n → (txd f n d).length ≤ 9 * d := by
  intro d
  induction d with
  | zero => intro _; simp [txd]
  | succ d ih =>
    intro hd
    have := ih (by omega)
    rw [txd, List.length_append]
    split
    · have := digits9 (limb_nat h (show n - 1 < n by omega)).1
      omega
    · have := pad9_len (limb_nat h (show n - 1 - d < n by omega)).1
      omega
theorem pw_ten : (10 : Int) ^ 9 = 1000000000 := by decide
theorem txd_num {f : Nat → Int} {n : Nat} (h : Limbs n f) : ∀ d, d ≤ n → num (txd f n d) * pw (n - d) + val f (n - d) = val f n := by
  intro d
  induction d with
  | zero => intro _; simp [txd, num, numF]
  | succ d ih =>
    intro hd
    have hi := ih (by omega)
    obtain ⟨m, hm⟩ : ∃ m, n - d = m + 1 := ⟨n - d - 1, by omega⟩
    rw [hm] at hi
    rw [show n - (d + 1) = m by omega, txd, num_append]
    rw [pw_succ, val_succ] at hi
    have e1 : (n - 1 - d) = m := by omega
    have key : num (if d = 0 then Lib.decDigits (f (n - 1)).toNat else pad9 (f (n - 1 - d)).toNat) = f m := by
      split
      · rename_i hz
        rw [(decDigits_all _).2.1]
        subst hz
        rw [show n - 1 = m by omega]
        exact (limb_nat h (show m < n by omega)).2
      · rw [pad9_num, e1]
        exact (limb_nat h (show m < n by omega)).2
    rw [key]
    by_cases hz : d = 0
    · subst hz
      simp only [txd] at hi ⊢
      have z : num ([] : List UInt8) = 0 := rfl
      rw [z] at hi ⊢
      simp only [Int.zero_mul, Int.zero_add] at hi ⊢
      rw [← hi]; omega
    · rw [if_neg hz, pad9_len (limb_nat h (show n - 1 - d < n by omega)).1, pw_ten]
      rw [← hi]
      generalize num (txd f n d) = X
      generalize val f m = Y
      generalize pw m = P
      rw [Int.add_mul, Int.mul_assoc, Int.mul_comm 1000000000 P]
      omega
def textN (f : Nat → Int) (n : Nat) : List UInt8 := if n = 0 then [48] else txd f n n
theorem textN_all (f : Nat → Int) (n : Nat) : (textN f n).all isD = true := by
  unfold textN
  split
  · rfl
  · exact txd_all f n n
theorem textN_num {f : Nat → Int} {n : Nat} (h : Limbs n f) : num (textN f n) = val f n := by
  unfold textN
  split
  · rename_i hz; subst hz; rfl
  · have := txd_num h n (Nat.le_refl _)
    simp only [Nat.sub_self, pw_zero, val_zero] at this
    omega
theorem textN_len {f : Nat → Int} {n : Nat} (h : Limbs n f) : (textN f n).length ≤ 9 * n + 1 := by
  unfold textN
  split
  · simp
  · have := txd_len h n (Nat.le_refl _); omega
theorem txd_pos (f : Nat → Int) (n d : Nat) (hd : 0 < d) : 1 ≤ (txd f n d).length := by
  obtain ⟨e, rfl⟩ : ∃ e, d = e + 1 := ⟨d - 1, by omega⟩
  rw [txd, List.length_append]
  split
  · have := digits1 (f (n - 1)).toNat; omega
  · have := digits1 (f (n - 1 - e)).toNat
    simp only [pad9, List.length_append]; omega
theorem textN_pos (f : Nat → Int) (n : Nat) : 1 ≤ (textN f n).length := by
  unfold textN
  split
  · simp
  · exact txd_pos f n n (by omega)
/-- Digits read one by one, and as a list. -/
theorem dec_take (s : ByteArray) (k : Nat) (hk : k ≤ s.size) : dec (dig s) k = num (s.data.toList.take k) := by
  induction k with
  | zero => rfl
  | succ k ih =>
    have hl : k < s.data.toList.length := by rw [Array.length_toList]; exact hk
    rw [List.take_succ_eq_append_getElem hl, num_append, ← ih (by omega), num_cons]
    show dec (dig s) k * 10 + dig s k = _
    have e : dig s k = ((s.data.toList[k]'hl).toNat : Int) - 48 := by
      unfold dig chr
      rw [dif_pos (show k < s.size by omega)]
      rfl
    rw [e]
    simp [num, numF]
theorem dec_all (s : ByteArray) : dec (dig s) s.size = num s.data.toList := by
  have := dec_take s s.size (Nat.le_refl _)
  rw [this, List.take_of_length_le (by rw [Array.length_toList]; exact Nat.le_refl _)]
theorem digits_all {s : ByteArray} (h : s.data.toList.all isD = true) : Digits s := by
  intro i hi
  have hl : i < s.data.toList.length := by rw [Array.length_toList]; exact hi
  have := (List.all_eq_true.1 h) _ (List.getElem_mem hl)
  rw [isD_iff] at this
  unfold chr
  rw [dif_pos hi]
  have e : (s[i]'hi) = s.data.toList[i]'hl := rfl
  rw [e]; omega
end Go.Proofs.YtfhapeinfhjihaaGreatDoor

namespace Go.Proofs.YtfhapeinfhjihaaGreatDoor
open Go.RowKit Go.Sort
attribute [local go_sem] setCell_drewN alloc_drewN

theorem repeat_zero (c : Nat) : Lib.repeatL [48] c = List.replicate c (48 : UInt8) := by
  have := Lib.repeatL_replicate 48 1 c
  simpa using this

set_option maxRecDepth 100000 in
set_option maxHeartbeats 3200000 in
theorem nwritten_any (v : Value) (n : Nat) (f : Nat → Int) (w : World) (hR : Row w v n f) (hC : Limbs n f) (hn : n ≤ 1000000000000) (ht : Lib.TabIs Tryz.prog w "internal/strconv.uint64pow10" .u64 Lib.pow10Tab) :
    Calls Tryz.prog 48 #[v] w fun e w' => e = .returned (.string (bs (textN f n))) ∧ Below w.heap.size w w' := by
  by_cases h0 : n = 0
  · obtain ⟨a, cap, rfl, _⟩ := hR.shape
    subst h0
    clear hR hC ht
    go_enter Tryz.func48, Tryz.ntmps48
    go_wp2
    go_ret
    exact ⟨rfl, Below.refl _ _⟩
  · obtain ⟨b, off, cap, rfl, hc, hm, hL⟩ := hR.lies (by omega)
    have n0 : ((n : Int) == 0) = false := beq_eq_false_iff_ne.2 (by omega)
    have n1 : (1 : Int) ≤ (n : Int) := by omega
    have n2 : (n : Int) ≤ 1000000000000 := by omega
    have HT : Hid (textN f n = txd f n n) := if_neg h0
    have HL : Hid (Row w (.slice (some ⟨b, off, none⟩) n cap) n f) := hR
    have HC : Hid (Limbs n f) := hC
    have HB0 : Hid (BB w.heap.size (txd f n (n - n)) (w.alloc (.cells #[.pointer none, .slice none 0 0] 108))) := by
      rw [Nat.sub_self]; exact bb_fresh w
    obtain ⟨SS, hSS⟩ : ∃ SS, bs (textN f n) = SS := ⟨_, rfl⟩
    rw [hSS]
    have HSS : Hid (bs (textN f n) = SS) := hSS
    clear hR hC hL h0 hSS
    go_enter Tryz.func48, Tryz.ntmps48
    go_wp2_with fail
    go_loopw [4] (fun i wx => ∃ k : Nat, k ≤ n ∧ i = .int .i64 ((k : Int) - 1) ∧ Hid (BB w.heap.size (txd f n (n - k)) wx) ∧ Hid (Below w.heap.size w wx)) (fun i _ => (intOf i + 1).toNat)
    case atStart => exact ⟨n, Nat.le_refl _, rfl, HB0.out, bl_a (Below.refl _ _) _⟩
    case round =>
      clear HB0
      obtain ⟨k, hk, rfl, HB, HW⟩ := hrel
      by_cases hk0 : 0 < k
      · obtain ⟨i, rfl⟩ : ∃ i, k = i + 1 := ⟨k - 1, by omega⟩
        have i0 : ((i + 1 : Nat) : Int) - 1 = (i : Int) := by omega
        have i1 : (0 : Int) ≤ (i : Int) := by omega
        have i2 : (i : Int) < (n : Int) := by omega
        obtain ⟨hu9, hue⟩ := limb_nat HC.out (show i < n by omega)
        obtain ⟨u, hu⟩ : ∃ u, (f i).toNat = u := ⟨_, rfl⟩
        rw [hu] at hu9 hue
        have hlies := (HL.out.below HW.out)
        rcases hlies with ⟨hz, _⟩ | ⟨b', off', cap', e, _, _, hL⟩
        · omega
        injection e with e1 _ e3
        injection e1 with e1
        injection e1 with e1 e2 _
        subst e1 e2 e3
        have hcell := hL.cell i (by omega)
        rw [← hue] at hcell
        clear hL
        have hlen := txd_len HC.out (n - (i + 1)) (by omega)
        have hpiece : Hid (txd f n (n - i) = txd f n (n - (i + 1)) ++ (if i + 1 = n then Lib.decDigits u else pad9 u)) := by
          obtain ⟨d, hd⟩ : ∃ d, n - (i + 1) = d := ⟨_, rfl⟩
          rw [hd, show n - i = d + 1 by omega, txd]
          by_cases hz : d = 0
          · rw [if_pos hz, if_pos (by omega), show n - 1 = i by omega, hu]; exact rfl
          · rw [if_neg hz, if_neg (by omega), show n - 1 - d = i by omega, hu]; exact rfl
        have hF := fun w ht => formatUint u (by omega) w ht
        have hS9 := digits9 hu9
        have hS1 := digits1 u
        have hSl : (⟨(Lib.decDigits u).toArray⟩ : ByteArray).data.toList = Lib.decDigits u := by simp
        have hSs : (⟨(Lib.decDigits u).toArray⟩ : ByteArray).size = (Lib.decDigits u).length := by simp [ByteArray.size]
        obtain ⟨S, hSe⟩ : ∃ S, (⟨(Lib.decDigits u).toArray⟩ : ByteArray) = S := ⟨_, rfl⟩
        rw [hSe] at hF hSl hSs
        rw [← hSs] at hS9 hS1
        clear hSe
        have HSl : Hid (S.data.toList = Lib.decDigits u) := hSl
        have HSs : Hid (S.size = (Lib.decDigits u).length) := hSs
        have huI : (u : Int) < 1000000000 := by omega
        clear hSl hSs hue hu hu9
        have hl2 : (txd f n (n - (i + 1))).length + 9 ≤ 140737488355328 := by omega
        clear hlen
        generalize txd f n (n - (i + 1)) = l at *
        go_wp2_with fail
        refine (hF _ (tab_below ht HW.out)).mono ?_
        rintro e w1 ⟨rfl, hb1⟩
        have HB1 : Hid (BB w.heap.size l w1) := HB.out.below hb1
        have HW1 : Hid (Below w.heap.size w w1) := bl_t HW.out hb1
        clear hcell hF hb1
        by_cases hlast : i + 1 = n
        · have hd1 : decide ((i : Int) < (n : Int) - 1) = false := decide_eq_false (by omega)
          have hs2 := wstr w.heap.size l S w1 HB1.out (by omega)
          have HLa : Hid (i + 1 = n) := hlast
          clear hlast
          go_wp2_with fail
          refine hs2.mono ?_
          rintro e w4 ⟨rfl, hB4, hb4⟩
          have HB4 : Hid (BB w.heap.size (txd f n (n - i)) w4) := by
            have := hB4
            rw [HSl.out] at this
            show BB _ _ _
            rw [hpiece.out, if_pos HLa.out]
            exact this
          have HW4 : Hid (Below w.heap.size w w4) := HW1.out.trans hb4
          clear hs2 hB4 hb4 hd1
          go_wp2
          go_roundw
          case rel => exact ⟨i, by omega, by go_num, HB4.out, HW4.out⟩
          case measure => simp [intOf] <;> omega
        · have hd1 : (i : Int) < (n : Int) - 1 := by omega
          obtain ⟨c, hc9⟩ : ∃ c : Nat, (9 : Int) - (S.size : Int) = (c : Int) := ⟨9 - S.size, by omega⟩
          have hcs : c = 9 - S.size := by omega
          have hr := fun w => Tryz.strings_Repeat ⟨#[48]⟩ c w (by omega) (by show 1 * c ≤ _; omega)
          have hRl : (⟨(Lib.repeatL (⟨#[48]⟩ : ByteArray).data.toList c).toArray⟩ : ByteArray).data.toList = List.replicate c 48 := by
            show (Lib.repeatL [48] c).toArray.toList = _
            rw [repeat_zero]
          have hRs : (⟨(Lib.repeatL (⟨#[48]⟩ : ByteArray).data.toList c).toArray⟩ : ByteArray).size = c := by
            show (Lib.repeatL [48] c).toArray.size = c
            rw [List.size_toArray, repeat_zero, List.length_replicate]
          obtain ⟨R, hRe⟩ : ∃ R, (⟨(Lib.repeatL (⟨#[48]⟩ : ByteArray).data.toList c).toArray⟩ : ByteArray) = R := ⟨_, rfl⟩
          rw [hRe] at hRl hRs
          have hr2 : ∀ w, Calls Tryz.prog 71 #[.string ⟨#[48]⟩, .int .i64 (c : Int)] w fun e w' => e = .returned (.string R) ∧ Below w.heap.size w w' := fun w => by
            rw [← hRe]; exact hr w
          have HR : Hid (R.data.toList = List.replicate c 48) := hRl
          have hRz : R.size ≤ 9 := by omega
          have HRz : Hid (R.size = c) := hRs
          have HCS : Hid (c = 9 - S.size) := hcs
          clear hr hRl hRs hRe hcs
          go_wp2_with fail
          refine (hr2 _).mono ?_
          rintro e w2 ⟨rfl, hb2⟩
          have hs1 := wstr w.heap.size l R w2 (HB1.out.below hb2) (by omega)
          have HW2 : Hid (Below w.heap.size w w2) := bl_t HW1.out hb2
          clear hr2 hb2
          go_wp2_with fail
          refine hs1.mono ?_
          rintro e w3 ⟨rfl, hB3, hb3⟩
          have hs2 := wstr w.heap.size (l ++ R.data.toList) S w3 hB3 (by rw [List.length_append, HR.out, List.length_replicate, HCS.out]; omega)
          have HW3 : Hid (Below w.heap.size w w3) := HW2.out.trans hb3
          clear hs1 hb3 hB3
          go_wp2_with fail
          refine hs2.mono ?_
          rintro e w4 ⟨rfl, hB4, hb4⟩
          have HB4 : Hid (BB w.heap.size (txd f n (n - i)) w4) := by
            have := hB4
            rw [HSl.out, HR.out, HCS.out, HSs.out, List.append_assoc] at this
            show BB _ _ _
            rw [hpiece.out, if_neg hlast]
            exact this
          have HW4 : Hid (Below w.heap.size w w4) := HW3.out.trans hb4
          clear hs2 hB4 hb4 hc9
          go_wp2
          go_roundw
          case rel => exact ⟨i, by omega, by go_num, HB4.out, HW4.out⟩
          case measure => simp [intOf] <;> omega
      · obtain rfl : k = 0 := by omega
        have hs := bstr w.heap.size _ wr HB.out
        rw [Nat.sub_zero, ← HT.out, HSS.out] at hs
        go_wp2_with fail
        refine hs.mono ?_
        rintro e w5 ⟨rfl, hb5⟩
        go_wp2
        go_ret
        exact ⟨rfl, HW.out.trans hb5⟩

set_option maxRecDepth 100000 in
set_option maxHeartbeats 800000 in
theorem ntext_ok (v : Value) (n : Nat) (f : Nat → Int) (w : World) (hR : Row w v n f) (hC : Can n f) (hn : n ≤ 1000000000000) (ht : Lib.TabIs Tryz.prog w "internal/strconv.uint64pow10" .u64 Lib.pow10Tab) :
    Calls Tryz.prog 22 #[v] w fun e w' => e = .returned (.tuple #[.string (bs (textN f n)), .int .i64 0]) ∧ Below w.heap.size w w' := by
  have h1 := check_ok v n f w hR hC
  have h2 := nwritten_any v n f w hR hC.1 hn ht
  obtain ⟨a, cap, rfl, _⟩ := hR.shape
  clear hR hC ht
  generalize bs (textN f n) = S at *
  go_enter Tryz.func22, Tryz.ntmps22
  go_wp2_with fail
  refine h1.mono ?_
  rintro e w1 ⟨rfl, rfl⟩
  go_wp2_with fail
  refine h2.mono ?_
  rintro e w2 ⟨rfl, hb⟩
  go_wp2
  go_ret2
  exact ⟨rfl, hb⟩

set_option maxRecDepth 100000 in
set_option maxHeartbeats 800000 in
theorem ntext_bad (v : Value) (n : Nat) (f : Nat → Int) (w : World) (hR : Row w v n f) (hC : ¬ Can n f) :
    Calls Tryz.prog 22 #[v] w fun e w' => e = .returned (.tuple #[.string ⟨#[]⟩, .int .i64 2]) ∧ Below w.heap.size w w' := by
  have h1 := check_bad v n f w hR hC
  obtain ⟨a, cap, rfl, _⟩ := hR.shape
  clear hR hC
  go_enter Tryz.func22, Tryz.ntmps22
  go_wp2_with fail
  refine h1.mono ?_
  rintro e w1 ⟨rfl, rfl⟩
  go_wp2
  go_ret2
  exact ⟨rfl, Below.refl _ _⟩
end Go.Proofs.YtfhapeinfhjihaaGreatDoor
