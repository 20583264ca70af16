/-
  What ref.Text answers: a number's digits. Conditions: at most 10^12 limbs.
-/
import Derived.Test.YtpgdabpohbmodaaDoorW3n
import Derived.Test.YtpgdabpohbmodaaDoorW4
import Derived.Test.YtpgdabpohbmodaaDoorR1d
namespace Go.Proofs.YtpgdabpohbmodaaDoor
open Go.RowKit Go.Sort
attribute [local go_sem] setCell_drewN alloc_drewN

theorem infoB : (Tryd.prog.info? 5).map (fun i => (i.zero, i.size, i.bytes)) = some (some (.int .u8 0), 1, 1) := by kernel_rfl
/-- Bytes as values. -/
def valsB (n : Nat) (f : Nat → Int) : List Value := (List.range n).map fun i => .int .u8 (f i)
theorem valsB_length (n : Nat) (f : Nat → Int) : (valsB n f).length = n := by simp [valsB]
theorem valsB_get (n : Nat) (f : Nat → Int) (i : Nat) (h : i < n) : (valsB n f)[i]? = some (.int .u8 (f i)) := by simp [valsB, h]
theorem valsB_congr {n : Nat} {f g : Nat → Int} (h : ∀ i, i < n → f i = g i) : valsB n f = valsB n g := by
  apply List.ext_getElem?
  intro j
  by_cases hj : j < n
  · rw [valsB_get n f j hj, valsB_get n g j hj, h j hj]
  · rw [List.getElem?_eq_none (by rw [valsB_length]; omega), List.getElem?_eq_none (by rw [valsB_length]; omega)]
theorem valsB_set (n : Nat) (f : Nat → Int) (k : Nat) (x : Int) : (valsB n f).set k (.int .u8 x) = valsB n (upd f k x) := by
  apply List.ext_getElem?
  intro j
  rw [List.getElem?_set]
  by_cases hj : j < n
  · rw [valsB_get n (upd f k x) j hj]
    by_cases e : k = j
    · subst e; simp [upd, valsB_length, hj]
    · rw [if_neg e, valsB_get n f j hj]; simp [upd, show ¬ j = k by omega]
  · rw [List.getElem?_eq_none (l := valsB n (upd f k x)) (by rw [valsB_length]; omega)]
    split
    · simp [valsB_length]; omega
    · exact List.getElem?_eq_none (by rw [valsB_length]; omega)
/-- A row of bytes of the call's own, at the head of its block. -/
def OwnB (w : World) (B g n : Nat) (f : Nat → Int) : Prop := w.ownsRow B 5 1 (.slice (some ⟨g, 0, none⟩) n n) n (valsB n f)
theorem OwnB.cell {w : World} {B g n : Nat} {f : Nat → Int} (h : OwnB w B g n f) (i : Nat) (hi : i < n) : w.cell? ⟨g, i, none⟩ = some (.int .u8 (f i)) := by
  rw [World.ownsRow.cellAt h i (by omega), valsB_get n f i hi]
theorem OwnB.free {w : World} {B g n : Nat} {f : Nat → Int} (h : OwnB w B g n f) (i : Nat) : w.frozen? ⟨g, i, none⟩ = false := World.ownsRow.frozenAt h i
theorem OwnB.stored {w : World} {B g n : Nat} {f : Nat → Int} (h : OwnB w B g n f) (k : Nat) (x : Int) : OwnB (w.setCell ⟨g, k, none⟩ (.int .u8 x)) B g n (upd f k x) := by
  have := (World.ownsRow.stored h k (.int .u8 x)).1
  rw [valsB_set] at this
  exact this
theorem OwnB.block {w : World} {B g n : Nat} {f : Nat → Int} (h : OwnB w B g n f) : B ≤ g ∧ g < w.heap.size := World.ownsRow.lt h g rfl
theorem make_rowB (w : World) (n : Nat) (h : n ≤ 281474976710656) : (Instr.makeSlice 43 (.int .i64 (n : Int)) (.int .i64 (n : Int))).run Tryd.prog w = .ok (.slice (some ⟨w.heap.size, 0, none⟩) n n) (w.alloc (.cells (madeCells #[.int .u8 0] n) 5)) := by
  obtain ⟨i0, hi, hz0, hz1, hz2⟩ := info_parts infoB
  have := run_make (P := Tryd.prog) w 43 5 i0 (.int .u8 0) Tryd.underlying43 hi hz0 .i64 .i64 (n : Int) (n : Int) (by omega) (by omega) (by rw [hz2]; omega) (by omega)
  rw [hz1] at this
  simpa [Value.cells] using this
theorem make_ownB (w : World) (B n : Nat) (hB : B ≤ w.heap.size) (h : n ≤ maxLen) : OwnB (w.alloc (.cells (madeCells #[.int .u8 0] n) 5)) B w.heap.size n (fun _ => 0) := by
  have := World.ownsRow_lit (base := B) (e := 5) (size := 1) w (madeCells #[.int .u8 0] n) n hB h (by have := size_madeCells #[Value.int .u8 0] (n * 1); simpa using this)
  rw [toList_madeCells_one] at this
  have e : List.replicate n (Value.int .u8 0) = valsB n (fun _ => 0) := by
    apply List.ext_getElem?
    intro j
    by_cases hj : j < n
    · rw [valsB_get n _ j hj]; simp [hj]
    · rw [List.getElem?_eq_none (by simp; omega), List.getElem?_eq_none (by rw [valsB_length]; omega)]
  rw [e] at this
  exact this

theorem dg_of {f : Nat → Int} {t j : Nat} (hj : j < 9) : Dg f (9 * t + j) = f t / 10 ^ j % 10 := by
  unfold Dg
  rw [show (9 * t + j) / 9 = t by omega, show (9 * t + j) % 9 = j by omega]
theorem div_next (x : Int) (j : Nat) : x / 10 ^ j / 10 = x / 10 ^ (j + 1) := by
  rw [Int.pow_succ, Int.ediv_ediv_of_nonneg (Int.le_of_lt (pow_pos10 j))]
theorem div_bd {x : Int} (h0 : 0 ≤ x) (h1 : x < 1000000000) (j : Nat) : 0 ≤ x / 10 ^ j ∧ x / 10 ^ j < 1000000000 := by
  have hp := pow_pos10 j
  refine ⟨Int.ediv_nonneg h0 (by omega), ?_⟩
  have := Int.ediv_le_self (10 ^ j) h0
  omega

set_option maxRecDepth 100000 in
set_option maxHeartbeats 6400000 in
theorem rtext_ok (v : Value) (n : Nat) (f : Nat → Int) (w : World) (hR : Row w v n f) (hC : Can n f) (hn : n ≤ 1000000000000) :
    Calls Tryd.prog 8 #[v] w fun e w' => e = .returned (.tuple #[.string (bs (textN f n)), .int .i64 0]) ∧ Below w.heap.size w w' := by
  have c1 := rcheck_ok v n f w hR hC
  by_cases h0 : n = 0
  · obtain ⟨a, cap, rfl, _⟩ := hR.shape
    subst h0
    clear hR hC
    go_enter Tryd.func8, Tryd.ntmps8
    go_wp2_with (go_at_call 11; refine c1.mono ?_; rintro e w1 ⟨rfl, rfl⟩)
    go_ret2
    exact ⟨rfl, Below.refl _ _⟩
  · obtain ⟨b, off, cap, rfl, hc, hm, hL⟩ := hR.lies (by omega)
    have n0 : ((n : Int) == 0) = false := beq_eq_false_iff_ne.2 (by omega)
    have n1 : (1 : Int) ≤ (n : Int) := by omega
    have n2 : (n : Int) ≤ 1000000000000 := by omega
    obtain ⟨L, hLn⟩ : ∃ L, 9 * n = L := ⟨_, rfl⟩
    obtain ⟨d8, dl, dz, dn, dt⟩ := text_in hC (by omega)
    rw [hLn] at dl dz dn dt
    have hLI : 9 * (n : Int) = (L : Int) := by omega
    have L1 : (9 : Int) ≤ (L : Int) := by omega
    have L2 : (L : Int) ≤ 9000000000000 := by omega
    have hmk := make_rowB w L (by omega)
    have HO0 : Hid (OwnB (w.alloc (.cells (madeCells #[.int .u8 0] L) 5)) w.heap.size w.heap.size L (hb f L (9 * 0))) := by
      have := make_ownB w w.heap.size L (Nat.le_refl _) (by unfold maxLen; omega)
      unfold OwnB at this ⊢
      rw [valsB_congr (g := hb f L (9 * 0)) (fun i hi => (hb_zero f L i hi).symm)] at this
      exact this
    have HL : Hid (Row w (.slice (some ⟨b, off, none⟩) n cap) n f) := hR
    have HC : Hid (Limbs n f) := hC.1
    have HLn : Hid (9 * n = L) := hLn
    have HD : Hid (lead f n ≤ 8 ∧ lead f n + (textN f n).length = L ∧ (∀ p, p < lead f n → hb f L L p = 48) ∧ hb f L L (lead f n) ≠ 48 ∧ ∀ j (hj : j < (textN f n).length), hb f L L (lead f n + j) = (((textN f n)[j]'hj).toNat : Int)) := ⟨d8, dl, dz, dn, dt⟩
    obtain ⟨T, hTe⟩ : ∃ T, textN f n = T := ⟨_, rfl⟩
    rw [hTe] at HD ⊢
    obtain ⟨S, HS⟩ : ∃ S, Hid (bs T = S) := ⟨_, rfl⟩
    rw [HS.out]
    obtain ⟨q, hq⟩ : ∃ q, lead f n = q := ⟨_, rfl⟩
    rw [hq] at HD
    clear hR hC hL h0 d8 dl dz dn dt hTe hq hLn
    go_enter Tryd.func8, Tryd.ntmps8
    go_wp2_with (go_at_call 11; refine c1.mono ?_; rintro e w1 ⟨rfl, rfl⟩)
    clear hmk c1
    go_loopw [5] (fun i wx => ∃ t : Nat, t ≤ n ∧ i = .int .i64 (t : Int) ∧ Hid (OwnB wx w.heap.size w.heap.size L (hb f L (9 * t))) ∧ Hid (Below w.heap.size w wx)) (fun i _ => n - (intOf i).toNat)
    case atStart => exact ⟨0, by omega, rfl, HO0.out, bl_a (Below.refl _ _) _⟩
    case round =>
      clear HO0
      obtain ⟨t, ht, rfl, HO, HW⟩ := hrel
      by_cases htn : t < n
      · have t1 : (t : Int) < (n : Int) := by omega
        have hft := HC.out t htn
        rcases (HL.out.below HW.out) with ⟨hz, _⟩ | ⟨b', off', cap', e, _, _, hL⟩
        · omega
        injection e with e1 _ e3
        injection e1 with e1
        injection e1 with e1 e2 _
        subst e1 e2 e3
        have hcell := hL.cell t htn
        clear hL
        obtain ⟨F, hF⟩ : ∃ F, f t = F := ⟨_, rfl⟩
        rw [hF] at hft hcell
        have HF : Hid (f t = F) := hF
        clear hF
        have HO1 : Hid (OwnB wr w.heap.size w.heap.size L (hb f L (9 * t + 0))) := HO.out
        go_wp2_with fail
        go_loopw [6, 7] (fun x k wx => ∃ j : Nat, j ≤ 9 ∧ k = .int .i64 (j : Int) ∧ x = .int .u32 (F / 10 ^ j) ∧ Hid (OwnB wx w.heap.size w.heap.size L (hb f L (9 * t + j))) ∧ Hid (Below w.heap.size w wx)) (fun _ k _ => 9 - (intOf k).toNat)
        case atStart => exact ⟨0, by omega, rfl, by simp, HO1.out, HW.out⟩
        case round =>
          clear HO HO1 HW hcell
          obtain ⟨j, hj, rfl, rfl, HO, HW⟩ := hrel
          by_cases hj9 : j < 9
          · have j1 : (j : Int) < 9 := by omega
            have hX := div_bd hft.1 hft.2 j
            have hXn := div_next F j
            have hXd : F / 10 ^ j % 10 = Dg f (9 * t + j) := by rw [dg_of hj9, HF.out]
            obtain ⟨P, hPn⟩ : ∃ P, L - 1 - (9 * t + j) = P := ⟨_, rfl⟩
            have hln := HLn.out
            have hP : (L : Int) - 1 - 9 * (t : Int) - (j : Int) = (P : Int) := by omega
            have hP1 : (P : Int) < (L : Int) := by omega
            have hP2 : P < L := by omega
            have hc2 := HO.out.cell P hP2
            have hfr := HO.out.free P
            have HO2 : Hid (OwnB (wr.setCell ⟨w.heap.size, P, none⟩ (.int .u8 (48 + F / 10 ^ j % 10))) w.heap.size w.heap.size L (hb f L (9 * t + (j + 1)))) := by
              have := HO.out.stored P (48 + F / 10 ^ j % 10)
              rw [hXd, ← hPn, hb_next f L (9 * t + j) (by omega)] at this
              rw [hXd, ← hPn]
              exact this
            have HW2 : Hid (Below w.heap.size w (wr.setCell ⟨w.heap.size, P, none⟩ (.int .u8 (48 + F / 10 ^ j % 10)))) := bl_s HW.out (Nat.le_refl _) _
            have HXn : Hid (F / 10 ^ j / 10 = F / 10 ^ (j + 1)) := hXn
            clear HO HW hln hPn hXd hXn
            obtain ⟨X, hXe⟩ : ∃ X, F / 10 ^ j = X := ⟨_, rfl⟩
            rw [hXe] at hX HO2 HW2 HXn
            rw [hXe]
            clear hXe
            generalize hb f L (9 * t + j) P = old at *
            go_wp2
            go_roundw
            case rel => exact ⟨j + 1, by omega, by go_num, by rw [HXn.out], HO2.out, HW2.out⟩
            case measure => simp [intOf] <;> omega
          · obtain rfl : j = 9 := by omega
            have HO3 : Hid (OwnB wr w.heap.size w.heap.size L (hb f L (9 * (t + 1)))) := HO.out
            clear HO
            go_wp2
            go_roundw
            case rel => exact ⟨t + 1, by omega, by go_num, HO3.out, HW.out⟩
            case measure => simp [intOf] <;> omega
      · obtain rfl : t = n := by omega
        have HO3 : Hid (OwnB wr w.heap.size w.heap.size L (hb f L L)) := by
          have := HO.out
          rw [HLn.out] at this
          exact this
        clear HO
        go_wp2_with fail
        go_loopw [8] (fun z wx => ∃ c : Nat, c ≤ q ∧ z = .int .i64 (c : Int) ∧ Hid (wx = wr)) (fun z _ => q - (intOf z).toNat)
        case atStart => exact ⟨0, by omega, rfl, rfl⟩
        case round =>
          rename_i wr0 _ _ wr1
          obtain ⟨c, hcq, rfl, HWx⟩ := hrel
          obtain rfl := HWx.out
          have hq8 := HD.out.1
          have hcell := HO3.out.cell c (by have := HLn.out; omega)
          have cL : (c : Int) < (L : Int) := by have := HLn.out; omega
          by_cases hlt : c < q
          · rw [HD.out.2.2.1 c hlt] at hcell
            go_wp2
            go_roundw
            case rel => exact ⟨c + 1, by omega, by go_num, by first | exact rfl | exact trivial⟩
            case measure => simp [intOf] <;> omega
          · obtain rfl : c = q := by omega
            have hne := HD.out.2.2.2.1
            have hlen : T.length = L - c := by have := HD.out.2.1; omega
            have hcv : (convert 43 9 (.slice (some ⟨w.heap.size, c, none⟩) (L - c) (L - c))).run Tryd.prog wr = .ok (.string S) wr := by
              have h := run_convert_bytes_back (P := Tryd.prog) wr 43 9 5 ⟨w.heap.size, c, none⟩ (L - c) T Tryd.underlying43 Tryd.underlying5 Tryd.underlying9 (fun j hj => by
                have h1 := HO3.out.cell (c + j) (by have := HD.out.2.1; omega)
                rw [HD.out.2.2.2.2 j hj] at h1
                have e : (⟨w.heap.size, c, none⟩ : Addr).add j = ⟨w.heap.size, c + j, none⟩ := Lib.add_plain _ _ _
                rw [e]
                exact h1)
              rw [hlen] at h
              rw [← HS.out]
              exact h
            have hne2 : (hb f L L c == 48) = false := beq_eq_false_iff_ne.2 hne
            obtain ⟨X, hXe⟩ : ∃ X, hb f L L c = X := ⟨_, rfl⟩
            rw [hXe] at hcell hne2
            clear hXe hne hlen
            go_wp2
            go_ret2
            exact ⟨rfl, HW.out⟩

set_option maxRecDepth 100000 in
set_option maxHeartbeats 800000 in
theorem rtext_bad (v : Value) (n : Nat) (f : Nat → Int) (w : World) (hR : Row w v n f) (hC : ¬ Can n f) :
    Calls Tryd.prog 8 #[v] w fun e w' => e = .returned (.tuple #[.string ⟨#[]⟩, .int .i64 2]) ∧ Below w.heap.size w w' := by
  have c1 := rcheck_bad v n f w hR hC
  obtain ⟨a, cap, rfl, _⟩ := hR.shape
  clear hR hC
  go_enter Tryd.func8, Tryd.ntmps8
  go_wp2_with (go_at_call 11; refine c1.mono ?_; rintro e w1 ⟨rfl, rfl⟩)
  go_ret2
  exact ⟨rfl, Below.refl _ _⟩
end Go.Proofs.YtpgdabpohbmodaaDoor
