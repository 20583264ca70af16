/-
  Rows of places joined; where matches go on. Conditions: at most 2^20 places.
  Where matches go on from some places, given where a tree's matches end. Conditions: at most 2^20 places.
  What means answers of nothing, of a row and of a choice. Conditions: at most 2^20 places.
-/
import Derived.Test.YtoinlmfodmgohaaGreatDoorExtraKYMeans0
import Derived.Test.YtoinlmfodmgohaaGreatDoorJoined37m
namespace Go.Proofs.YtoinlmfodmgohaaGreatDoor
open Go.RowKit Go.Maps
attribute [local go_sem] setCell_drewN alloc_drewN

theorem OwnI.mark {w : World} {B g n : Nat} {S : Nat → Prop} (h : OwnI w B (.slice (some ⟨g, 0, none⟩) n n) (mkS n S)) {x : Nat} (hx : x < n) : w.cell? ⟨g, x, none⟩ = some (.int .i64 (ia (mkS n S) x)) := by
  have ho := h.1
  rw [mkS_len] at ho
  rw [ho.cellAt _ (by omega)]
  unfold ivs ia
  rw [List.getElem?_map, List.getElem?_eq_getElem (by rw [mkS_len]; exact hx), List.getD_eq_getElem?_getD, List.getElem?_eq_getElem (by rw [mkS_len]; exact hx)]; rfl
theorem OwnI.thaw {w : World} {B g n : Nat} {S : Nat → Prop} (h : OwnI w B (.slice (some ⟨g, 0, none⟩) n n) (mkS n S)) (x : Nat) : w.frozen? ⟨g, x, none⟩ = false := by
  have ho := h.1
  rw [mkS_len] at ho
  exact ho.frozenAt x
theorem make_int (n : Nat) (hn : n ≤ 1048577) (w : World) : (Instr.makeSlice 32 (.int .i64 (n : Int)) (.int .i64 (n : Int))).run Tryz.prog w = .ok (.slice (some ⟨w.heap.size, 0, none⟩) n n) (w.alloc (.cells (madeCells #[.int .i64 0] n) 3)) := by
  obtain ⟨i0, hi, hz0, hz1, hz2⟩ := info_parts infoInt
  have := run_make (P := Tryz.prog) w 32 3 i0 (.int .i64 0) Tryz.underlying32 hi hz0 .i64 .i64 (n : Int) (n : Int) (by omega) (by omega) (by rw [hz2]; omega) (by omega)
  rw [hz1] at this
  simpa [Value.cells] using this
theorem made_int (n : Nat) (hn : n ≤ 1048577) (w : World) (B : Nat) (hB : B ≤ w.heap.size) : OwnI (w.alloc (.cells (madeCells #[.int .i64 0] n) 3)) B (.slice (some ⟨w.heap.size, 0, none⟩) n n) (mkS n (fun _ => False)) := by
  refine ⟨?_, mkS_i64⟩
  have h := World.ownsRow_lit (base := w.heap.size) (e := 3) (size := 1) w (madeCells #[.int .i64 0] n) n (Nat.le_refl _) (by unfold maxLen; omega) (by rw [size_madeCells]; omega)
  rw [toList_madeCells_one, ← mkS_nil] at h
  rw [mkS_len]
  exact own_mono h hB
theorem OwnI.put1 {w : World} {B g n : Nat} {S T : Nat → Prop} (h : OwnI w B (.slice (some ⟨g, 0, none⟩) n n) (mkS n S)) {x : Nat} (hx : x < n) (hT : ∀ y, y < n → ((S y ∨ y = x) ↔ T y)) : OwnI (w.setCell ⟨g, x, none⟩ (.int .i64 1)) B (.slice (some ⟨g, 0, none⟩) n n) (mkS n T) := by
  have := h.stored (mkS_len n S) x 1 (I64_of (by omega) (by omega))
  rw [mkS_set hx, mkS_congr hT] at this
  exact this
theorem OwnI.put0 {w : World} {B g n : Nat} {S T : Nat → Prop} (h : OwnI w B (.slice (some ⟨g, 0, none⟩) n n) (mkS n S)) {x : Nat} (hx : x < n) (h0 : ¬ S x) (hT : ∀ y, y < n → (S y ↔ T y)) : OwnI (w.setCell ⟨g, x, none⟩ (.int .i64 0)) B (.slice (some ⟨g, 0, none⟩) n n) (mkS n T) := by
  have := h.stored (mkS_len n S) x 0 (I64_of (by omega) (by omega))
  rw [mkS_set0 hx h0, mkS_congr hT] at this
  exact this
theorem OwnI.turn {w : World} {B : Nat} {v : Value} {n : Nat} {S T : Nat → Prop} (h : OwnI w B v (mkS n S)) (hT : ∀ y, y < n → (S y ↔ T y)) : OwnI w B v (mkS n T) := by
  rw [mkS_congr hT] at h; exact h
set_option maxRecDepth 100000 in
set_option maxHeartbeats 3200000 in
theorem join_any (n : Nat) (hn : n ≤ 1048577) (S T : Nat → Prop) (ga gb Ba Bb : Nat) (w : World) (ha : OwnI w Ba (.slice (some ⟨ga, 0, none⟩) n n) (mkS n S)) (hb : OwnI w Bb (.slice (some ⟨gb, 0, none⟩) n n) (mkS n T)) :
    Calls Tryz.prog 45 #[.slice (some ⟨ga, 0, none⟩) n n, .slice (some ⟨gb, 0, none⟩) n n] w fun e w' => ∃ g, e = .returned (.slice (some ⟨g, 0, none⟩) n n) ∧ OwnI w' w.heap.size (.slice (some ⟨g, 0, none⟩) n n) (mkS n (fun x => S x ∨ T x)) ∧ Below w.heap.size w w' := by
  obtain ⟨P, hP⟩ : ∃ P : Ending → World → Prop, P = fun e w' => ∃ g, e = .returned (.slice (some ⟨g, 0, none⟩) n n) ∧ OwnI w' w.heap.size (.slice (some ⟨g, 0, none⟩) n n) (mkS n (fun x => S x ∨ T x)) ∧ Below w.heap.size w w' := ⟨_, rfl⟩
  rw [← hP]
  have HP := hid_intro hP
  have hmk := make_int n hn
  have hm1 := made_int n hn w w.heap.size (Nat.le_refl _)
  obtain ⟨W1, hW1⟩ : ∃ W1, w.alloc (.cells (madeCells #[.int .i64 0] n) 3) = W1 := ⟨_, rfl⟩
  have hb1 : Below w.heap.size w W1 := hW1 ▸ vb_a (Below.refl _ _) _
  rw [hW1] at hm1
  have hga : ga < w.heap.size := (ha.lt rfl).2
  have hgb : gb < w.heap.size := (hb.lt rfl).2
  have HA := hid_intro ha
  have HB := hid_intro hb
  have HM1 := hid_intro hm1
  have HB1 := hid_intro hb1
  have HW1 := hid_intro hW1
  have HNN := hid_intro hn
  have hnI : (n : Int) ≤ 1048577 := by omega
  have hna : w.heap.size ≠ ga := by omega
  have hnb : w.heap.size ≠ gb := by omega
  clear hP ha hb hm1 hb1 hW1 hn hga hgb
  go_enter Tryz.func45, Tryz.ntmps45
  go_wp2_with fail
  rw [HW1.out]
  go_loopg [6] n (fun m s6 wr => ∃ i : Nat, i ≤ n ∧ m = n - i ∧ s6 = .int .i64 (i : Int) ∧ Hid (OwnI wr w.heap.size (.slice (some ⟨w.heap.size, 0, none⟩) n n) (mkS n (fun x => x < i ∧ (S x ∨ T x))) ∧ Below w.heap.size w wr))
  case atStart => exact ⟨0, Nat.zero_le _, rfl, rfl, HM1.out.turn (fun y _ => ⟨fun h => h.elim, fun h => absurd h.1 (Nat.not_lt_zero y)⟩), HB1.out⟩
  case round =>
    obtain ⟨i, hi, rfl, rfl, HI⟩ := hrel
    by_cases hlt : (i : Int) < (n : Int)
    · have hin : i < n := by omega
      have HIN := hid_intro hin
      have hf := HI.out.1.thaw i
      have hct := HI.out.1.mark hin
      by_cases hS : S i
      · have c1 : wr.cell? ⟨ga, i, none⟩ = some (.int .i64 1) := by rw [(HA.out.bel HI.out.2).mark hin, mkS_1 hin hS]
        have HNX : Hid (OwnI (wr.setCell ⟨w.heap.size, i, none⟩ (.int .i64 1)) w.heap.size (.slice (some ⟨w.heap.size, 0, none⟩) n n) (mkS n (fun x => x < i + 1 ∧ (S x ∨ T x)))) := hid_intro (HI.out.1.put1 hin (fun y hy => by
          constructor
          · rintro (⟨h1, h2⟩ | rfl)
            · exact ⟨by omega, h2⟩
            · exact ⟨by omega, Or.inl hS⟩
          · rintro ⟨h1, h2⟩
            by_cases e : y = i
            · exact Or.inr e
            · exact Or.inl ⟨by omega, h2⟩))
        by_cases hT : T i
        · have c2 : wr.cell? ⟨gb, i, none⟩ = some (.int .i64 1) := by rw [(HB.out.bel HI.out.2).mark hin, mkS_1 hin hT]
          clear hin hS hT
          go_wp2_with fail
          go_region
          all_goals
            go_wp2_with fail
            go_roundg (n - (i + 1))
            case measure => have := HIN.out; omega
            case rel => exact ⟨i + 1, HIN.out, rfl, by simp, HNX.out, vb_d (vb_s HI.out.2 (Nat.le_refl _) _)⟩
        · have c2 : wr.cell? ⟨gb, i, none⟩ = some (.int .i64 0) := by rw [(HB.out.bel HI.out.2).mark hin, mkS_0 hin hT]
          clear hin hS hT
          go_wp2_with fail
          go_region
          all_goals
            go_wp2_with fail
            go_roundg (n - (i + 1))
            case measure => have := HIN.out; omega
            case rel => exact ⟨i + 1, HIN.out, rfl, by simp, HNX.out, vb_d (vb_s HI.out.2 (Nat.le_refl _) _)⟩
      · have c1 : wr.cell? ⟨ga, i, none⟩ = some (.int .i64 0) := by rw [(HA.out.bel HI.out.2).mark hin, mkS_0 hin hS]
        by_cases hT : T i
        · have c2 : wr.cell? ⟨gb, i, none⟩ = some (.int .i64 1) := by rw [(HB.out.bel HI.out.2).mark hin, mkS_1 hin hT]
          have HNX : Hid (OwnI (wr.setCell ⟨w.heap.size, i, none⟩ (.int .i64 1)) w.heap.size (.slice (some ⟨w.heap.size, 0, none⟩) n n) (mkS n (fun x => x < i + 1 ∧ (S x ∨ T x)))) := hid_intro (HI.out.1.put1 hin (fun y hy => by
            constructor
            · rintro (⟨h1, h2⟩ | rfl)
              · exact ⟨by omega, h2⟩
              · exact ⟨by omega, Or.inr hT⟩
            · rintro ⟨h1, h2⟩
              by_cases e : y = i
              · exact Or.inr e
              · exact Or.inl ⟨by omega, h2⟩))
          clear hin hS hT
          go_wp2_with fail
          go_region
          all_goals
            go_wp2_with fail
            go_roundg (n - (i + 1))
            case measure => have := HIN.out; omega
            case rel => exact ⟨i + 1, HIN.out, rfl, by simp, HNX.out, vb_d (vb_s HI.out.2 (Nat.le_refl _) _)⟩
        · have c2 : wr.cell? ⟨gb, i, none⟩ = some (.int .i64 0) := by rw [(HB.out.bel HI.out.2).mark hin, mkS_0 hin hT]
          have HNX : Hid (OwnI (wr.setCell ⟨w.heap.size, i, none⟩ (.int .i64 0)) w.heap.size (.slice (some ⟨w.heap.size, 0, none⟩) n n) (mkS n (fun x => x < i + 1 ∧ (S x ∨ T x)))) := hid_intro (HI.out.1.put0 hin (fun h => absurd h.1 (Nat.lt_irrefl _)) (fun y hy => by
            constructor
            · rintro ⟨h1, h2⟩; exact ⟨by omega, h2⟩
            · rintro ⟨h1, h2⟩
              by_cases e : y = i
              · subst e; exact absurd h2 (fun h => h.elim hS hT)
              · exact ⟨by omega, h2⟩))
          clear hin hS hT
          go_wp2_with fail
          go_region
          all_goals
            go_wp2_with fail
            go_roundg (n - (i + 1))
            case measure => have := HIN.out; omega
            case rel => exact ⟨i + 1, HIN.out, rfl, by simp, HNX.out, vb_d (vb_s HI.out.2 (Nat.le_refl _) _)⟩
    · have hie : i = n := by omega
      go_wp2_with fail
      rw [HP.out]
      exact ⟨w.heap.size, rfl, HI.out.1.turn (fun y hy => ⟨fun h => h.2, fun h => ⟨by omega, h⟩⟩), HI.out.2⟩
end Go.Proofs.YtoinlmfodmgohaaGreatDoor

namespace Go.Proofs.YtoinlmfodmgohaaGreatDoor
open Go.RowKit Go.Maps
attribute [local go_sem] setCell_drewN alloc_drewN

/-- What means answers of a tree. -/
def MnC (y : RX) (t : List Int) (tv : Value) : Prop := ∀ (f : Nat → Value) (w : World), XI w (fun _ => False) y f → II w (fun _ => False) t tv → ∀ p : Nat, p ≤ t.length →
  Calls Tryz.prog 23 #[xa f, tv, .int .i64 (p : Int)] w fun e w' => ∃ g, e = .returned (.slice (some ⟨g, 0, none⟩) (t.length + 1) (t.length + 1)) ∧ OwnI w' w.heap.size (.slice (some ⟨g, 0, none⟩) (t.length + 1) (t.length + 1)) (mkS (t.length + 1) (MX y t p)) ∧ Below w.heap.size w w'
/-- What onward answers of a tree. -/
def OnC (y : RX) (t : List Int) (tv : Value) : Prop := ∀ (f : Nat → Value) (w : World), XI w (fun _ => False) y f → II w (fun _ => False) t tv → ∀ (S : Nat → Prop) (gf Bf : Nat), OwnI w Bf (.slice (some ⟨gf, 0, none⟩) (t.length + 1) (t.length + 1)) (mkS (t.length + 1) S) →
  Calls Tryz.prog 46 #[xa f, tv, .slice (some ⟨gf, 0, none⟩) (t.length + 1) (t.length + 1)] w fun e w' => ∃ g, e = .returned (.slice (some ⟨g, 0, none⟩) (t.length + 1) (t.length + 1)) ∧ OwnI w' w.heap.size (.slice (some ⟨g, 0, none⟩) (t.length + 1) (t.length + 1)) (mkS (t.length + 1) (fun q => ∃ u, u < t.length + 1 ∧ S u ∧ MX y t u q)) ∧ Below w.heap.size w w'
set_option maxRecDepth 100000 in
set_option maxHeartbeats 3200000 in
theorem onward_of (y : RX) (t : List Int) (tv : Value) (hlt : t.length ≤ 1048576) (hM : MnC y t tv) : OnC y t tv := by
  intro f w hv hI S gf Bf hf
  obtain ⟨k, a1, n1, c1, lo, hi, z, a2, n2, c2, e0, e1, e2, e3, e4, e5⟩ := hv.six
  have exa : xa f = .agg #[.int .i64 k, .slice a1 n1 c1, .int .i64 lo, .int .i64 hi, .bool z, .slice a2 n2 c2] := by unfold xa; rw [e0, e1, e2, e3, e4, e5]
  obtain ⟨ta, tc, rfl⟩ : ∃ ta tc, tv = .slice ta t.length tc := by obtain ⟨ta, tc, rfl, _⟩ := hI; exact ⟨ta, tc, rfl⟩
  obtain ⟨n, hn⟩ : ∃ n, t.length + 1 = n := ⟨_, rfl⟩
  have hnI : (n : Int) ≤ 1048577 := by omega
  obtain ⟨P, hP⟩ : ∃ P : Ending → World → Prop, P = fun e w' => ∃ g, e = .returned (.slice (some ⟨g, 0, none⟩) n n) ∧ OwnI w' w.heap.size (.slice (some ⟨g, 0, none⟩) n n) (mkS n (fun q => ∃ u, u < n ∧ S u ∧ MX y t u q)) ∧ Below w.heap.size w w' := ⟨_, rfl⟩
  obtain ⟨W, hW⟩ : ∃ W, w.alloc (.cells #[.int .i64 k, .slice a1 n1 c1, .int .i64 lo, .int .i64 hi, .bool z, .slice a2 n2 c2] 31) = W := ⟨_, rfl⟩
  have hbW : Below w.heap.size w W := hW ▸ vb_a (Below.refl _ _) _
  have kX : Bk W w.heap.size #[.int .i64 k, .slice a1 n1 c1, .int .i64 lo, .int .i64 hi, .bool z, .slice a2 n2 c2] := hW ▸ Bk.new _ _ _
  have hmk := make_int n (by omega)
  have hm1 := made_int n (by omega) W w.heap.size hbW.size
  obtain ⟨W1, hW1⟩ : ∃ W1, W.alloc (.cells (madeCells #[.int .i64 0] n) 3) = W1 := ⟨_, rfl⟩
  have hb1 : Below W.heap.size W W1 := hW1 ▸ vb_a (Below.refl _ _) _
  rw [hW1, show W.heap.size = w.heap.size + 1 by rw [← hW]; simp] at hm1
  have HM : Hid (∀ w' p, Below w.heap.size w w' → p < n → Calls Tryz.prog 23 #[.agg #[.int .i64 k, .slice a1 n1 c1, .int .i64 lo, .int .i64 hi, .bool z, .slice a2 n2 c2], .slice ta t.length tc, .int .i64 (p : Int)] w' fun e w2 => ∃ g, e = .returned (.slice (some ⟨g, 0, none⟩) n n) ∧ OwnI w2 w'.heap.size (.slice (some ⟨g, 0, none⟩) n n) (mkS n (MX y t p)) ∧ Below w'.heap.size w' w2) :=
    hid_intro (fun w' p hb hp => by
      have := hM f w' (hv.kept hb) (hI.kept hb) p (by omega)
      rw [exa, hn] at this
      exact this)
  have HJ : Hid (∀ w' S T ga gb Ba Bb, OwnI w' Ba (.slice (some ⟨ga, 0, none⟩) n n) (mkS n S) → OwnI w' Bb (.slice (some ⟨gb, 0, none⟩) n n) (mkS n T) → Calls Tryz.prog 45 #[.slice (some ⟨ga, 0, none⟩) n n, .slice (some ⟨gb, 0, none⟩) n n] w' fun e w2 => ∃ g, e = .returned (.slice (some ⟨g, 0, none⟩) n n) ∧ OwnI w2 w'.heap.size (.slice (some ⟨g, 0, none⟩) n n) (mkS n (fun x => S x ∨ T x)) ∧ Below w'.heap.size w' w2) :=
    hid_intro (fun w' S T ga gb Ba Bb h1 h2 => join_any n (by omega) S T ga gb Ba Bb w' h1 h2)
  rw [exa, hn, ← hP]
  rw [hn] at hf
  have HP := hid_intro hP
  have HW := hid_intro hW
  have HW1 := hid_intro hW1
  have HK := hid_intro (kX.bel hb1)
  have HBW := hid_intro hbW
  have HB1 := hid_intro (vb_t hbW hb1)
  have HB0 := hid_intro hb1
  have HM1 := hid_intro hm1
  have HF := hid_intro hf
  clear hP hv hI hM exa e0 e1 e2 e3 e4 e5 hW hW1 kX hbW hb1 hm1 hf hn hlt
  go_enter Tryz.func46, Tryz.ntmps46
  go_wp2_with fail
  rw [HW.out, HW1.out]
  go_loopg [7, 8] n (fun m s7 s8 wr => ∃ (i gr : Nat), i ≤ n ∧ m = n - i ∧ s7 = .slice (some ⟨gr, 0, none⟩) n n ∧ s8 = .int .i64 (i : Int) ∧ Hid (OwnI wr w.heap.size (.slice (some ⟨gr, 0, none⟩) n n) (mkS n (fun q => ∃ u, u < i ∧ S u ∧ MX y t u q)) ∧ Below W1.heap.size W1 wr))
  case atStart => exact ⟨0, w.heap.size + 1, Nat.zero_le _, rfl, rfl, rfl, HM1.out.turn (fun y _ => ⟨fun h => h.elim, fun ⟨u, h, _⟩ => absurd h (Nat.not_lt_zero u)⟩), Below.refl _ _⟩
  case round =>
    obtain ⟨i, gr, hi', rfl, rfl, rfl, HI⟩ := hrel
    by_cases hlt : (i : Int) < (n : Int)
    · have hin : i < n := by omega
      have HIN := hid_intro hin
      by_cases hS : S i
      · have c1 : wr.cell? ⟨gf, i, none⟩ = some (.int .i64 1) := by rw [(HF.out.bel (vb_t HB1.out HI.out.2)).mark hin, mkS_1 hin hS]
        obtain ⟨x0, x1, x2, x3, x4, x5⟩ := (HK.out.bel HI.out.2).c6
        have h1 := HM.out wr i (vb_t HB1.out HI.out.2) hin
        have HS := hid_intro hS
        clear hin hS
        go_wp2_with fail
        refine h1.mono ?_; rintro e w2 ⟨g2, rfl, ho2, hb2⟩
        have h2 := HJ.out w2 _ _ gr g2 _ _ (HI.out.1.bel hb2) ho2
        have HB2 := hid_intro hb2
        clear h1 ho2 hb2
        go_wp2_with fail
        refine h2.mono ?_; rintro e w3 ⟨g3, rfl, ho3, hb3⟩
        have HB3 := hid_intro (vb_t HI.out.2 (vb_t HB2.out hb3))
        have HO3 : Hid (OwnI w3 w.heap.size (.slice (some ⟨g3, 0, none⟩) n n) (mkS n (fun q => ∃ u, u < i + 1 ∧ S u ∧ MX y t u q))) := hid_intro ((ho3.mono (by have := (vb_t HB1.out HI.out.2).size; have := HB2.out.size; omega)).turn (fun q _ => by
          constructor
          · rintro (⟨u, h1, h2⟩ | h)
            · exact ⟨u, by omega, h2⟩
            · exact ⟨i, by omega, HS.out, h⟩
          · rintro ⟨u, h1, h2, h3⟩
            by_cases e : u = i
            · subst e; exact Or.inr h3
            · exact Or.inl ⟨u, by omega, h2, h3⟩))
        clear h2 ho3 hb3
        go_wp2_with fail
        go_roundg (n - (i + 1))
        case measure => have := HIN.out; omega
        case rel => exact ⟨i + 1, g3, HIN.out, rfl, rfl, by simp, HO3.out, HB3.out⟩
      · have c1 : wr.cell? ⟨gf, i, none⟩ = some (.int .i64 0) := by rw [(HF.out.bel (vb_t HB1.out HI.out.2)).mark hin, mkS_0 hin hS]
        have HO3 : Hid (OwnI wr w.heap.size (.slice (some ⟨gr, 0, none⟩) n n) (mkS n (fun q => ∃ u, u < i + 1 ∧ S u ∧ MX y t u q))) := hid_intro (HI.out.1.turn (fun q _ => by
          constructor
          · rintro ⟨u, h1, h2⟩; exact ⟨u, by omega, h2⟩
          · rintro ⟨u, h1, h2, h3⟩
            by_cases e : u = i
            · subst e; exact absurd h2 hS
            · exact ⟨u, by omega, h2, h3⟩))
        clear hin hS
        go_wp2_with fail
        go_roundg (n - (i + 1))
        case measure => have := HIN.out; omega
        case rel => exact ⟨i + 1, gr, HIN.out, rfl, rfl, by simp, HO3.out, HI.out.2⟩
    · obtain rfl : i = n := by omega
      go_wp2_with fail
      rw [HP.out]
      exact ⟨gr, rfl, HI.out.1, vb_t HB1.out HI.out.2⟩
end Go.Proofs.YtoinlmfodmgohaaGreatDoor

namespace Go.Proofs.YtoinlmfodmgohaaGreatDoor
open Go.RowKit Go.Maps
attribute [local go_sem] setCell_drewN alloc_drewN

theorem ms_take (l : List RX) (t : List Int) (p : Nat) (i : Nat) (h : i < l.length) (q : Nat) : MS (l.take (i + 1)) t p q ↔ ∃ u, MS (l.take i) t p u ∧ MX l[i] t u q := by
  have key : ∀ (l m : List RX) (p q : Nat), MS (l ++ m) t p q ↔ ∃ u, MS l t p u ∧ MS m t u q := by
    intro l
    induction l with
    | nil => intro m p q; simp only [List.nil_append, MS]; constructor
             · intro h; exact ⟨p, rfl, h⟩
             · rintro ⟨u, rfl, h⟩; exact h
    | cons x l ih =>
      intro m p q
      rw [List.cons_append, MS]
      constructor
      · rintro ⟨u, h1, h2⟩
        obtain ⟨v, h3, h4⟩ := (ih m u q).1 h2
        exact ⟨v, by rw [MS]; exact ⟨u, h1, h3⟩, h4⟩
      · rintro ⟨v, h3, h4⟩
        rw [MS] at h3
        obtain ⟨u, h1, h2⟩ := h3
        exact ⟨u, h1, (ih m u q).2 ⟨v, h2, h4⟩⟩
  rw [List.take_add_one, List.getElem?_eq_getElem h, Option.toList_some, key]
  constructor
  · rintro ⟨u, h1, h2⟩
    simp only [MS] at h2
    obtain ⟨v, h3, rfl⟩ := h2
    exact ⟨u, h1, h3⟩
  · rintro ⟨u, h1, h2⟩
    exact ⟨u, h1, by simp only [MS]; exact ⟨q, h2, rfl⟩⟩
theorem ma_take (l : List RX) (t : List Int) (p : Nat) (i : Nat) (h : i < l.length) (q : Nat) : MA (l.take (i + 1)) t p q ↔ MA (l.take i) t p q ∨ MX l[i] t p q := by
  have key : ∀ (l m : List RX), MA (l ++ m) t p q ↔ MA l t p q ∨ MA m t p q := by
    intro l
    induction l with
    | nil => intro m; simp [MA]
    | cons x l ih => intro m; rw [List.cons_append, MA, MA, ih m, or_assoc]
  rw [List.take_add_one, List.getElem?_eq_getElem h, Option.toList_some, key]
  simp [MA]
theorem ms_hi {l : List RX} {t : List Int} (h : ∀ y ∈ l, ∀ p q, MX y t p q → p ≤ t.length → q ≤ t.length) : ∀ (p q : Nat), MS l t p q → p ≤ t.length → q ≤ t.length := by
  induction l with
  | nil => intro p q hm hp; simp only [MS] at hm; omega
  | cons x l ih =>
    intro p q hm hp
    rw [MS] at hm
    obtain ⟨u, h1, h2⟩ := hm
    exact ih (fun y hy => h y (by simp [hy])) u q h2 (h x (by simp) p u h1 hp)
set_option maxRecDepth 100000 in
set_option maxHeartbeats 6400000 in
theorem means_1 (r : List (Int × Int)) (lo hi : Int) (z : Bool) (s : List RX) (t : List Int) (tv : Value) (hlt : t.length ≤ 1048576) : MnC (.mk 1 r lo hi z s) t tv := by
  intro f w hv hI p hp
  cases hv with
  | mk ao cap G f0 f1 f2 f3 f4 f5 hc hw hl hr =>
  obtain ⟨a1, c1, e1, _⟩ := f1.shape
  have exa : xa f = .agg #[.int .i64 1, .slice a1 r.length c1, .int .i64 lo, .int .i64 hi, .bool z, .slice ao s.length cap] := by unfold xa; rw [f0, e1, f2, f3, f4, f5]
  obtain ⟨ta, tc, rfl⟩ : ∃ ta tc, tv = .slice ta t.length tc := by obtain ⟨ta, tc, rfl, _⟩ := hI; exact ⟨ta, tc, rfl⟩
  obtain ⟨n, hn⟩ : ∃ n, t.length + 1 = n := ⟨_, rfl⟩
  have hnI : (n : Int) ≤ 1048577 := by omega
  have hlI : (s.length : Int) ≤ 9223372036854775807 := by have := hc.1; have := hc.2; unfold maxLen at this; omega
  have htI : (t.length : Int) + 1 ≤ 9223372036854775807 := by omega
  obtain ⟨P, hP⟩ : ∃ P : Ending → World → Prop, P = fun e w' => ∃ g, e = .returned (.slice (some ⟨g, 0, none⟩) n n) ∧ OwnI w' w.heap.size (.slice (some ⟨g, 0, none⟩) n n) (mkS n (MX (.mk 1 r lo hi z s) t p)) ∧ Below w.heap.size w w' := ⟨_, rfl⟩
  obtain ⟨W, hW⟩ : ∃ W, w.alloc (.cells #[.int .i64 1, .slice a1 r.length c1, .int .i64 lo, .int .i64 hi, .bool z, .slice ao s.length cap] 31) = W := ⟨_, rfl⟩
  have hbW : Below w.heap.size w W := hW ▸ vb_a (Below.refl _ _) _
  have kX : Bk W w.heap.size #[.int .i64 1, .slice a1 r.length c1, .int .i64 lo, .int .i64 hi, .bool z, .slice ao s.length cap] := hW ▸ Bk.new _ _ _
  have hmk : ∀ w, (Instr.makeSlice 32 (.int .i64 ((t.length : Int) + 1)) (.int .i64 ((t.length : Int) + 1))).run Tryz.prog w = .ok (.slice (some ⟨w.heap.size, 0, none⟩) n n) (w.alloc (.cells (madeCells #[.int .i64 0] n) 3)) := fun w => by
    have := make_int n (by omega) w
    rw [show ((n : Nat) : Int) = (t.length : Int) + 1 by omega] at this
    exact this
  have hm1 := made_int n (by omega) W w.heap.size hbW.size
  obtain ⟨W1, hW1⟩ : ∃ W1, W.alloc (.cells (madeCells #[.int .i64 0] n) 3) = W1 := ⟨_, rfl⟩
  have hb1 : Below W.heap.size W W1 := hW1 ▸ vb_a (Below.refl _ _) _
  rw [hW1] at hm1
  have hWs : W.heap.size = w.heap.size + 1 := by rw [← hW]; simp
  have hb01 := vb_t hbW hb1
  have hpn : p < n := by omega
  have hpI : (p : Int) < (n : Int) := by omega
  rw [exa, hn, ← hP]
  have HP := hid_intro hP
  have HW := hid_intro hW
  have HW1 := hid_intro hW1
  have HK := hid_intro (kX.bel hb1)
  have HB1 := hid_intro hb01
  have HM1 := hid_intro hm1
  have HN := hid_intro hn
  have HLI := hid_intro hlI
  have hc1 : W1.cell? ⟨W.heap.size, p, none⟩ = some (.int .i64 0) := by rw [hm1.mark hpn, mkS_0 hpn (fun h => h)]
  have hf1 : W1.frozen? ⟨W.heap.size, p, none⟩ = false := hm1.thaw p
  have HS1 : Hid (OwnI (W1.setCell ⟨W.heap.size, p, none⟩ (.int .i64 1)) w.heap.size (.slice (some ⟨W.heap.size, 0, none⟩) n n) (mkS n (fun q => q = p))) := hid_intro (hm1.put1 hpn (fun y _ => ⟨fun h => h.elim (fun h => h.elim) id, Or.inr⟩))
  have HBS : Hid (Below w.heap.size w (W1.setCell ⟨W.heap.size, p, none⟩ (.int .i64 1))) := hid_intro (vb_s hb01 hbW.size _)
  obtain ⟨k0, k1, k2, k3, k4, k5⟩ := (kX.bel hb1).c6
  clear hP hl hr hI exa f1 hWs kX hbW hb1 hb01 hm1 hn hlt hw hc hp hpn hlI
  go_enter Tryz.func23, Tryz.ntmps23
  go_wp2_with fail
  rw [HP.out]
  exact ⟨W.heap.size, rfl, HS1.out.turn (fun q _ => by rw [MX]; simp), HBS.out⟩
set_option maxRecDepth 100000 in
set_option maxHeartbeats 6400000 in
theorem means_4 (r : List (Int × Int)) (lo hi : Int) (z : Bool) (s : List RX) (t : List Int) (tv : Value) (hlt : t.length ≤ 1048576) (hsub : ∀ y ∈ s, MnC y t tv) : MnC (.mk 4 r lo hi z s) t tv := by
  intro f w hv hI p hp
  cases hv with
  | mk ao cap G f0 f1 f2 f3 f4 f5 hc hw hl hr =>
  obtain ⟨a1, c1, e1, _⟩ := f1.shape
  have exa : xa f = .agg #[.int .i64 4, .slice a1 r.length c1, .int .i64 lo, .int .i64 hi, .bool z, .slice ao s.length cap] := by unfold xa; rw [f0, e1, f2, f3, f4, f5]
  obtain ⟨ta, tc, rfl⟩ : ∃ ta tc, tv = .slice ta t.length tc := by obtain ⟨ta, tc, rfl, _⟩ := hI; exact ⟨ta, tc, rfl⟩
  obtain ⟨n, hn⟩ : ∃ n, t.length + 1 = n := ⟨_, rfl⟩
  have hnI : (n : Int) ≤ 1048577 := by omega
  have hlI : (s.length : Int) ≤ 9223372036854775807 := by have := hc.1; have := hc.2; unfold maxLen at this; omega
  have htI : (t.length : Int) + 1 ≤ 9223372036854775807 := by omega
  obtain ⟨P, hP⟩ : ∃ P : Ending → World → Prop, P = fun e w' => ∃ g, e = .returned (.slice (some ⟨g, 0, none⟩) n n) ∧ OwnI w' w.heap.size (.slice (some ⟨g, 0, none⟩) n n) (mkS n (MX (.mk 4 r lo hi z s) t p)) ∧ Below w.heap.size w w' := ⟨_, rfl⟩
  obtain ⟨W, hW⟩ : ∃ W, w.alloc (.cells #[.int .i64 4, .slice a1 r.length c1, .int .i64 lo, .int .i64 hi, .bool z, .slice ao s.length cap] 31) = W := ⟨_, rfl⟩
  have hbW : Below w.heap.size w W := hW ▸ vb_a (Below.refl _ _) _
  have kX : Bk W w.heap.size #[.int .i64 4, .slice a1 r.length c1, .int .i64 lo, .int .i64 hi, .bool z, .slice ao s.length cap] := hW ▸ Bk.new _ _ _
  have hmk : ∀ w, (Instr.makeSlice 32 (.int .i64 ((t.length : Int) + 1)) (.int .i64 ((t.length : Int) + 1))).run Tryz.prog w = .ok (.slice (some ⟨w.heap.size, 0, none⟩) n n) (w.alloc (.cells (madeCells #[.int .i64 0] n) 3)) := fun w => by
    have := make_int n (by omega) w
    rw [show ((n : Nat) : Int) = (t.length : Int) + 1 by omega] at this
    exact this
  have hm1 := made_int n (by omega) W w.heap.size hbW.size
  obtain ⟨W1, hW1⟩ : ∃ W1, W.alloc (.cells (madeCells #[.int .i64 0] n) 3) = W1 := ⟨_, rfl⟩
  have hb1 : Below W.heap.size W W1 := hW1 ▸ vb_a (Below.refl _ _) _
  rw [hW1] at hm1
  have hWs : W.heap.size = w.heap.size + 1 := by rw [← hW]; simp
  have hb01 := vb_t hbW hb1
  have hpn : p < n := by omega
  have hpI : (p : Int) < (n : Int) := by omega
  rw [exa, hn, ← hP]
  have HP := hid_intro hP
  have HW := hid_intro hW
  have HW1 := hid_intro hW1
  have HK := hid_intro (kX.bel hb1)
  have HB1 := hid_intro hb01
  have HM1 := hid_intro hm1
  have HN := hid_intro hn
  have HLI := hid_intro hlI
  have HL : Hid (∀ w', Below w.heap.size w w' → (s = [] ∨ ∃ b off, ao = some ⟨b, off, none⟩ ∧ ∀ i, i < s.length → ∀ j, j < 6 → w'.cell? ⟨b, off + i * 6 + j, none⟩ = some (G i j))) := hid_intro (fun w' hb => by
    rcases hl with hl | ⟨b, off, h1, _, h3⟩
    · exact .inl hl
    · exact .inr ⟨b, off, h1, fun i hi j hj => by rw [hb.cell (p := ⟨b, off + i * 6 + j, none⟩) (World.block_lt_of_cell? w _ (h3 i hi j hj))]; exact h3 i hi j hj⟩)
  have HM : Hid (∀ w' i (h : i < s.length), Below w.heap.size w w' → Calls Tryz.prog 23 #[.agg #[G i 0, G i 1, G i 2, G i 3, G i 4, G i 5], .slice ta t.length tc, .int .i64 (p : Int)] w' fun e w2 => ∃ g, e = .returned (.slice (some ⟨g, 0, none⟩) n n) ∧ OwnI w2 w'.heap.size (.slice (some ⟨g, 0, none⟩) n n) (mkS n (MX s[i] t p)) ∧ Below w'.heap.size w' w2) :=
    hid_intro (fun w' i h hb => by
      have := hsub s[i] (List.getElem_mem h) (G i) w' ((hr i h).kept hb |>.weak fun _ h => h.elim) ((hI.kept hb)) p hp
      rw [hn] at this
      exact this)
  have HJ : Hid (∀ w' S T ga gb Ba Bb, OwnI w' Ba (.slice (some ⟨ga, 0, none⟩) n n) (mkS n S) → OwnI w' Bb (.slice (some ⟨gb, 0, none⟩) n n) (mkS n T) → Calls Tryz.prog 45 #[.slice (some ⟨ga, 0, none⟩) n n, .slice (some ⟨gb, 0, none⟩) n n] w' fun e w2 => ∃ g, e = .returned (.slice (some ⟨g, 0, none⟩) n n) ∧ OwnI w2 w'.heap.size (.slice (some ⟨g, 0, none⟩) n n) (mkS n (fun x => S x ∨ T x)) ∧ Below w'.heap.size w' w2) :=
    hid_intro (fun w' S T ga gb Ba Bb h1 h2 => join_any n (by omega) S T ga gb Ba Bb w' h1 h2)
  obtain ⟨k0, k1, k2, k3, k4, k5⟩ := (kX.bel hb1).c6
  clear hP hl hr hI exa f1 hWs kX hbW hb1 hb01 hm1 hn hlt hw hc hp hsub
  go_enter Tryz.func23, Tryz.ntmps23
  go_wp2_with fail
  clear k0 k1 k2 k3 k4 k5
  go_loopg [7, 12] s.length (fun m s7 s12 wr => ∃ (i gr : Nat), i ≤ s.length ∧ m = s.length - i ∧ s7 = .slice (some ⟨gr, 0, none⟩) n n ∧ s12 = .int .i64 (i : Int) ∧ Hid (OwnI wr w.heap.size (.slice (some ⟨gr, 0, none⟩) n n) (mkS n (MA (s.take i) t p)) ∧ Below W1.heap.size W1 wr))
  case atStart => exact ⟨0, W.heap.size, Nat.zero_le _, rfl, rfl, rfl, HM1.out.turn (fun y _ => by simp [MA]), Below.refl _ _⟩
  case round =>
    obtain ⟨i, gr, hi', rfl, rfl, rfl, HI⟩ := hrel
    have a5 := (HK.out.bel HI.out.2).c6.2.2.2.2.2
    by_cases hlt0 : i < s.length
    · have hJ : (i : Int) < (s.length : Int) := by omega
      obtain ⟨b, off, rfl, h3⟩ := (HL.out wr (vb_t HB1.out HI.out.2)).resolve_left (fun e => by rw [e] at hlt0; exact absurd hlt0 (by simp))
      have g0 : wr.cell? ⟨b, off + i * 6, none⟩ = some (G i 0) := h3 i hlt0 0 (by omega)
      have g1 := h3 i hlt0 1 (by omega)
      have g2 := h3 i hlt0 2 (by omega)
      have g3 := h3 i hlt0 3 (by omega)
      have g4 := h3 i hlt0 4 (by omega)
      have g5 := h3 i hlt0 5 (by omega)
      have h1 := HM.out wr i hlt0 (vb_t HB1.out HI.out.2)
      have HLT := hid_intro hlt0
      clear h3
      go_wp2_with fail
      refine h1.mono ?_; rintro e w2 ⟨g2, rfl, ho2, hb2⟩
      have h2 := HJ.out w2 _ _ gr g2 _ _ (HI.out.1.bel hb2) ho2
      have HB2 := hid_intro hb2
      clear h1 ho2 hb2
      go_wp2_with fail
      refine h2.mono ?_; rintro e w3 ⟨g3, rfl, ho3, hb3⟩
      have HB3 := hid_intro (vb_t HI.out.2 (vb_t HB2.out hb3))
      have HO3 : Hid (OwnI w3 w.heap.size (.slice (some ⟨g3, 0, none⟩) n n) (mkS n (MA (s.take (i + 1)) t p))) := hid_intro ((ho3.mono (by have := (vb_t HB1.out HI.out.2).size; have := HB2.out.size; omega)).turn (fun q _ => (ma_take s t p i HLT.out q).symm))
      clear h2 ho3 hb3
      go_wp2_with fail
      go_roundg (s.length - (i + 1))
      case measure => have := HLT.out; omega
      case rel => exact ⟨i + 1, g3, HLT.out, rfl, rfl, by simp, HO3.out, HB3.out⟩
    · have hie : i = s.length := by omega
      have hJ : ¬ (i : Int) < (s.length : Int) := by omega
      have HOE : Hid (OwnI wr w.heap.size (.slice (some ⟨gr, 0, none⟩) n n) (mkS n (MX (.mk 4 r lo hi z s) t p))) := hid_intro (HI.out.1.turn (fun q _ => by rw [hie, List.take_length, MX]; simp))
      go_wp2_with fail
      rw [HP.out]
      exact ⟨gr, rfl, HOE.out, vb_t HB1.out HI.out.2⟩
set_option maxRecDepth 100000 in
set_option maxHeartbeats 6400000 in
theorem means_3 (r : List (Int × Int)) (lo hi : Int) (z : Bool) (s : List RX) (t : List Int) (tv : Value) (hlt : t.length ≤ 1048576) (hsub : ∀ y ∈ s, MnC y t tv) (hhi : ∀ y ∈ s, ∀ p q, MX y t p q → p ≤ t.length → q ≤ t.length) : MnC (.mk 3 r lo hi z s) t tv := by
  intro f w hv hI p hp
  cases hv with
  | mk ao cap G f0 f1 f2 f3 f4 f5 hc hw hl hr =>
  obtain ⟨a1, c1, e1, _⟩ := f1.shape
  have exa : xa f = .agg #[.int .i64 3, .slice a1 r.length c1, .int .i64 lo, .int .i64 hi, .bool z, .slice ao s.length cap] := by unfold xa; rw [f0, e1, f2, f3, f4, f5]
  obtain ⟨ta, tc, rfl⟩ : ∃ ta tc, tv = .slice ta t.length tc := by obtain ⟨ta, tc, rfl, _⟩ := hI; exact ⟨ta, tc, rfl⟩
  obtain ⟨n, hn⟩ : ∃ n, t.length + 1 = n := ⟨_, rfl⟩
  have hnI : (n : Int) ≤ 1048577 := by omega
  have hlI : (s.length : Int) ≤ 9223372036854775807 := by have := hc.1; have := hc.2; unfold maxLen at this; omega
  have htI : (t.length : Int) + 1 ≤ 9223372036854775807 := by omega
  obtain ⟨P, hP⟩ : ∃ P : Ending → World → Prop, P = fun e w' => ∃ g, e = .returned (.slice (some ⟨g, 0, none⟩) n n) ∧ OwnI w' w.heap.size (.slice (some ⟨g, 0, none⟩) n n) (mkS n (MX (.mk 3 r lo hi z s) t p)) ∧ Below w.heap.size w w' := ⟨_, rfl⟩
  obtain ⟨W, hW⟩ : ∃ W, w.alloc (.cells #[.int .i64 3, .slice a1 r.length c1, .int .i64 lo, .int .i64 hi, .bool z, .slice ao s.length cap] 31) = W := ⟨_, rfl⟩
  have hbW : Below w.heap.size w W := hW ▸ vb_a (Below.refl _ _) _
  have kX : Bk W w.heap.size #[.int .i64 3, .slice a1 r.length c1, .int .i64 lo, .int .i64 hi, .bool z, .slice ao s.length cap] := hW ▸ Bk.new _ _ _
  have hmk : ∀ w, (Instr.makeSlice 32 (.int .i64 ((t.length : Int) + 1)) (.int .i64 ((t.length : Int) + 1))).run Tryz.prog w = .ok (.slice (some ⟨w.heap.size, 0, none⟩) n n) (w.alloc (.cells (madeCells #[.int .i64 0] n) 3)) := fun w => by
    have := make_int n (by omega) w
    rw [show ((n : Nat) : Int) = (t.length : Int) + 1 by omega] at this
    exact this
  have hm1 := made_int n (by omega) W w.heap.size hbW.size
  obtain ⟨W1, hW1⟩ : ∃ W1, W.alloc (.cells (madeCells #[.int .i64 0] n) 3) = W1 := ⟨_, rfl⟩
  have hb1 : Below W.heap.size W W1 := hW1 ▸ vb_a (Below.refl _ _) _
  rw [hW1] at hm1
  have hWs : W.heap.size = w.heap.size + 1 := by rw [← hW]; simp
  have hb01 := vb_t hbW hb1
  have hpn : p < n := by omega
  have hpI : (p : Int) < (n : Int) := by omega
  rw [exa, hn, ← hP]
  have HP := hid_intro hP
  have HW := hid_intro hW
  have HW1 := hid_intro hW1
  have HK := hid_intro (kX.bel hb1)
  have HB1 := hid_intro hb01
  have HM1 := hid_intro hm1
  have HN := hid_intro hn
  have HLI := hid_intro hlI
  have HL : Hid (∀ w', Below w.heap.size w w' → (s = [] ∨ ∃ b off, ao = some ⟨b, off, none⟩ ∧ ∀ i, i < s.length → ∀ j, j < 6 → w'.cell? ⟨b, off + i * 6 + j, none⟩ = some (G i j))) := hid_intro (fun w' hb => by
    rcases hl with hl | ⟨b, off, h1, _, h3⟩
    · exact .inl hl
    · exact .inr ⟨b, off, h1, fun i hi j hj => by rw [hb.cell (p := ⟨b, off + i * 6 + j, none⟩) (World.block_lt_of_cell? w _ (h3 i hi j hj))]; exact h3 i hi j hj⟩)
  have HO : Hid (∀ w' i (h : i < s.length), Below w.heap.size w w' → ∀ S gf Bf, OwnI w' Bf (.slice (some ⟨gf, 0, none⟩) n n) (mkS n S) → Calls Tryz.prog 46 #[.agg #[G i 0, G i 1, G i 2, G i 3, G i 4, G i 5], .slice ta t.length tc, .slice (some ⟨gf, 0, none⟩) n n] w' fun e w2 => ∃ g, e = .returned (.slice (some ⟨g, 0, none⟩) n n) ∧ OwnI w2 w'.heap.size (.slice (some ⟨g, 0, none⟩) n n) (mkS n (fun q => ∃ u, u < n ∧ S u ∧ MX s[i] t u q)) ∧ Below w'.heap.size w' w2) :=
    hid_intro (fun w' i h hb S gf Bf ho => by
      have := onward_of s[i] t _ hlt (hsub s[i] (List.getElem_mem h)) (G i) w' ((hr i h).kept hb |>.weak fun _ h => h.elim) (hI.kept hb) S gf Bf (by rw [hn]; exact ho)
      rw [hn] at this
      exact this)
  have hc1 : W1.cell? ⟨W.heap.size, p, none⟩ = some (.int .i64 0) := by rw [hm1.mark hpn, mkS_0 hpn (fun h => h)]
  have hf1 : W1.frozen? ⟨W.heap.size, p, none⟩ = false := hm1.thaw p
  have HS1 : Hid (OwnI (W1.setCell ⟨W.heap.size, p, none⟩ (.int .i64 1)) w.heap.size (.slice (some ⟨W.heap.size, 0, none⟩) n n) (mkS n (fun q => q = p))) := hid_intro (hm1.put1 hpn (fun y _ => ⟨fun h => h.elim (fun h => h.elim) id, Or.inr⟩))
  have HBS : Hid (Below w.heap.size w (W1.setCell ⟨W.heap.size, p, none⟩ (.int .i64 1))) := hid_intro (vb_s hb01 hbW.size _)
  obtain ⟨k0, k1, k2, k3, k4, k5⟩ := (kX.bel hb1).c6
  have HHI : Hid (∀ i u, MS (s.take i) t p u → u < n) := hid_intro (fun i u h => by have := ms_hi (l := s.take i) (t := t) (fun y hy => hhi y (List.mem_of_mem_take hy)) p u h hp; omega)
  have HKS : Hid (Bk (W1.setCell ⟨W.heap.size, p, none⟩ (.int .i64 1)) w.heap.size #[.int .i64 3, .slice a1 r.length c1, .int .i64 lo, .int .i64 hi, .bool z, .slice ao s.length cap]) := hid_intro ((kX.bel hb1).away (by show w.heap.size ≠ W.heap.size; omega))
  clear hP hl hr hI exa f1 hWs kX hbW hb1 hb01 hm1 hn hlt hw hc hp hsub hhi hpn hlI
  go_enter Tryz.func23, Tryz.ntmps23
  go_wp2_with fail
  have hlI := HLI.out
  clear k0 k1 k2 k3 k4 k5 hc1 hf1
  obtain ⟨W2, hW2⟩ : ∃ W2, W1.setCell ⟨W.heap.size, p, none⟩ (.int .i64 1) = W2 := ⟨_, rfl⟩
  rw [hW2] at HS1 HBS HKS ⊢
  clear hW2
  go_loopg [7, 13] s.length (fun m s7 s13 wr => ∃ (i gr : Nat), i ≤ s.length ∧ m = s.length - i ∧ s7 = .slice (some ⟨gr, 0, none⟩) n n ∧ s13 = .int .i64 (i : Int) ∧ Hid (OwnI wr w.heap.size (.slice (some ⟨gr, 0, none⟩) n n) (mkS n (MS (s.take i) t p)) ∧ Below W2.heap.size W2 wr))
  case atStart => exact ⟨0, W.heap.size, Nat.zero_le _, rfl, rfl, rfl, HS1.out.turn (fun y _ => by simp [MS]), Below.refl _ _⟩
  case round =>
    obtain ⟨i, gr, hi', rfl, rfl, rfl, HI⟩ := hrel
    have a5 := (HKS.out.bel HI.out.2).c6.2.2.2.2.2
    by_cases hlt0 : i < s.length
    · have hJ : (i : Int) < (s.length : Int) := by omega
      obtain ⟨b, off, rfl, h3⟩ := (HL.out wr (vb_t HBS.out HI.out.2)).resolve_left (fun e => by rw [e] at hlt0; exact absurd hlt0 (by simp))
      have g0 : wr.cell? ⟨b, off + i * 6, none⟩ = some (G i 0) := h3 i hlt0 0 (by omega)
      have g1 := h3 i hlt0 1 (by omega)
      have g2 := h3 i hlt0 2 (by omega)
      have g3 := h3 i hlt0 3 (by omega)
      have g4 := h3 i hlt0 4 (by omega)
      have g5 := h3 i hlt0 5 (by omega)
      have h1 := HO.out wr i hlt0 (vb_t HBS.out HI.out.2) _ gr _ HI.out.1
      have HLT := hid_intro hlt0
      clear h3
      go_wp2_with fail
      refine h1.mono ?_; rintro e w3 ⟨g3, rfl, ho3, hb3⟩
      have HB3 := hid_intro (vb_t HI.out.2 hb3)
      have HO3 : Hid (OwnI w3 w.heap.size (.slice (some ⟨g3, 0, none⟩) n n) (mkS n (MS (s.take (i + 1)) t p))) := hid_intro ((ho3.mono (vb_t HBS.out HI.out.2).size).turn (fun q _ => by
        rw [ms_take s t p i HLT.out q]
        constructor
        · rintro ⟨u, _, h2, h3⟩; exact ⟨u, h2, h3⟩
        · rintro ⟨u, h2, h3⟩; exact ⟨u, HHI.out i u h2, h2, h3⟩))
      clear h1 ho3 hb3
      go_wp2_with fail
      go_roundg (s.length - (i + 1))
      case measure => have := HLT.out; omega
      case rel => exact ⟨i + 1, g3, HLT.out, rfl, rfl, by simp, HO3.out, HB3.out⟩
    · have hie : i = s.length := by omega
      have hJ : ¬ (i : Int) < (s.length : Int) := by omega
      have HOE : Hid (OwnI wr w.heap.size (.slice (some ⟨gr, 0, none⟩) n n) (mkS n (MX (.mk 3 r lo hi z s) t p))) := hid_intro (HI.out.1.turn (fun q _ => by rw [hie, List.take_length, MX]; simp))
      go_wp2_with fail
      rw [HP.out]
      exact ⟨gr, rfl, HOE.out, vb_t HBS.out HI.out.2⟩
end Go.Proofs.YtoinlmfodmgohaaGreatDoor
