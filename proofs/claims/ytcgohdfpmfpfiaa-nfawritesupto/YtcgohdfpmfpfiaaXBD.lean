/-
  A part that may come, so many times: compiled. Conditions: there is room.
-/
import Derived.Test.YtcgohdfpmfpfiaaXBC
import Derived.Laws.EntriesVeiled
namespace Go.Proofs.Ytcgohdfpmfpfiaa
open Go.RowKit
attribute [local go_sem] setCell_drewN alloc_drewN

set_option maxRecDepth 100000 in
set_option maxHeartbeats 6400000 in
theorem perhaps_any (wb : World) (lb sb cap : Nat) (y : RX) (hy : YOK y) (A Bl R Pb : Nat) (fv : Value) (Z : List Nat) (L : List ST) (w : World) (h : Run wb w lb sb cap y A Bl R Pb fv Z L) (n : Nat) (hn : n ≤ 1000) (hroom : L.length + n * (szX y + 1) ≤ cap) :
    Calls Try.prog 50 #[.pointer (some ⟨lb, 0, none⟩), .int .i64 (n : Int), .func (.func 58) #[] #[.pointer (some ⟨A, 0, none⟩), .pointer (some ⟨Bl, 0, none⟩), .pointer (some ⟨R, 0, none⟩), .pointer (some ⟨Pb, 0, none⟩)]] w fun e w' => e = .returned (.tuple #[]) ∧ LZ w' lb sb cap (A :: R :: Z) (L ++ rep (fun p => ⟨2, [], (p : Int) + 1, ((L.length + n * (szX y + 1) : Nat) : Int)⟩ :: bld y (p + 1)) (szX y + 1) L.length n) ∧ But (four lb sb A R) w w' := by
  obtain ⟨E, hE⟩ : ∃ E, L.length + n * (szX y + 1) = E := ⟨_, rfl⟩
  rw [hE, ← perM_rep y E n L.length]
  obtain ⟨P, hP⟩ : ∃ P : Ending → World → Prop, P = fun e w' => e = .returned (.tuple #[]) ∧ LZ w' lb sb cap (A :: R :: Z) (L ++ perM y E n L.length n) ∧ But (four lb sb A R) w w' := ⟨_, rfl⟩
  rw [← hP]
  have HP := hid_intro hP
  clear hP
  have hlt := h.2.2.lt
  have hAR := h.lt
  have hBl : Bl < w.heap.size := World.block_lt_of_cell? w _ h.1.cl
  have hPb : Pb < w.heap.size := World.block_lt_of_cell? w _ h.1.cp
  have hwb := h.1.but.size
  have hmk := make_fn w n (by omega)
  obtain ⟨cs0, hcs0⟩ : ∃ cs0, madeCells #[.nilFunc] (n * 1) = cs0 := ⟨_, rfl⟩
  have hsz0 : cs0.size = n := by rw [← hcs0, size_madeCells, Nat.mul_one]
  rw [hcs0] at hmk
  obtain ⟨V, hV⟩ : ∃ V, w.alloc (.cells cs0 1) = V := ⟨_, rfl⟩
  rw [hV] at hmk
  have hbV : Below w.heap.size w V := hV ▸ vb_a (Below.refl _ _) _
  have hVs : w.heap.size < V.heap.size := by rw [← hV]; simp
  have kV : Bk V w.heap.size cs0 := hV ▸ Bk.new _ _ _
  have hrV : Run wb V lb sb cap y A Bl R Pb fv (w.heap.size :: Z) L := by
    have h1 := h.below hbV
    exact ⟨h1.1, h1.2.1, (h.2.2.apart hbV w.heap.size (Nat.le_refl _) hVs).sub (fun z hz => by simp only [List.mem_cons] at hz ⊢; rcases hz with hz | hz | hz | hz <;> simp [hz])⟩
  obtain ⟨bb, hbb⟩ : ∃ bb, w.heap.size = bb := ⟨_, rfl⟩
  have hnf : ¬ four lb sb A R bb := fun e => by rcases e with (e | e) | e | e <;> omega
  rw [hbb] at kV hrV hmk
  have HV0 := hid_intro (And.intro hsz0 (And.intro kV (And.intro hrV hbV)))
  have HM := hid_intro (And.intro hroom (And.intro hy (And.intro hn (And.intro hE (And.intro hnf (And.intro hbb (And.intro (And.intro hwb (And.intro hAR (And.intro hBl hPb))) hlt)))))))
  have hnI : (n : Int) ≤ 1000 := by omega
  clear h hroom hn hE hbV kV hrV hsz0 hcs0 hVs hy hnf hlt hAR hBl hPb hwb hV hbb
  go_enter Try.func50, Try.ntmps50
  go_wp2_with fail
  clear hmk
  go_loopg [13] n (fun m s13 wr => ∃ (i : Nat) (cs : Array Value), i ≤ n ∧ m = n - i ∧ s13 = .int .i64 (i : Int) ∧ Hid (cs.size = n ∧ Bk wr bb cs ∧ WaitB wr lb sb A R bb cs L.length (szX y) i ∧ Run wb wr lb sb cap y A Bl R Pb fv (bb :: Z) (L ++ perM y E i L.length 0) ∧ But (four lb sb A R) w wr))
  case atStart => exact ⟨0, cs0, Nat.zero_le _, rfl, rfl, HV0.out.1, HV0.out.2.1, fun k hk => absurd hk (by omega), by simpa [perM] using HV0.out.2.2.1, But.ofBelow HV0.out.2.2.2⟩
  case round =>
    obtain ⟨i, cs, hi, rfl, rfl, HZ⟩ := hrel
    by_cases hlt : i < n
    · have hJ : (i : Int) < (n : Int) := by omega
      have hmul : (i + 1) * (szX y + 1) ≤ n * (szX y + 1) := Nat.mul_le_mul_right _ (by omega)
      rw [Nat.succ_mul] at hmul
      have hll : (L ++ perM y E i L.length 0).length = L.length + i * (szX y + 1) := by rw [List.length_append, perM_len y HM.out.2.1.len]
      have hfork := forkZ_any lb sb cap _ _ wr HZ.out.2.2.2.1.2.2 (by rw [hll]; have := HM.out.1; omega)
      have HLL := hid_intro (And.intro hll hmul)
      clear hll hmul
      go_wp2_with fail
      refine hfork.mono ?_; rintro e w1 ⟨p0, q0, rfl, hp0, hq0, hcap1, hls1, hbt1⟩
      have hr1 := HZ.out.2.2.2.1.more hls1 hbt1
      have hbb2 : ¬ two lb sb bb := fun e => HM.out.2.2.2.2.1 (Or.inl e)
      have k1 := HZ.out.2.1.but hbt1 hbb2
      have hci : i < cs.size := by have := HZ.out.1; omega
      have d1 : w1.cell? ⟨bb, i, none⟩ = some cs[i] := (k1.cell i).trans (Array.getElem?_eq_getElem hci)
      have z1 := k1.frz i
      obtain ⟨W2, hW2⟩ : ∃ W2, w1.setCell ⟨bb, i, none⟩ (.func (.func 56) #[] #[.pointer (some ⟨p0, 0, none⟩), .pointer (some ⟨q0, 0, none⟩)]) = W2 := ⟨_, rfl⟩
      have hb2 : But (fun b => b = bb) w1 W2 := hW2 ▸ But.setS (But.refl _ _) i _
      have k2 : Bk W2 bb (cs.setIfInBounds i (.func (.func 56) #[] #[.pointer (some ⟨p0, 0, none⟩), .pointer (some ⟨q0, 0, none⟩)])) := hW2 ▸ k1.set i _ rfl
      have hltr := HZ.out.2.2.2.1.lt
      have hbbr : bb < wr.heap.size := HZ.out.2.1.lt
      have hr2 := hr1.butX hb2 (fun b e => by
        subst e
        have hm := HM.out.2.2.2.2.2.2.1
        have hb := HM.out.2.2.2.2.2.1
        exact ⟨by omega, by simp⟩)
      have hcall := run_call wb lb sb cap y HM.out.2.1 A Bl R Pb fv (bb :: Z) _ W2 hr2 (by rw [List.length_append, HLL.out.1]; simp; have := HM.out.1; have := HLL.out.2; omega)
      have hn0 : (¬ four lb sb A R p0 ∧ p0 ≠ bb) ∧ ¬ four lb sb A R q0 ∧ q0 ≠ bb := ⟨⟨four_not hcap1.2.2.1 hltr.1 hltr.2 hp0, by omega⟩, four_not hcap1.2.2.2 hltr.1 hltr.2 hq0, by omega⟩
      have hw2 : WaitB W2 lb sb A R bb (cs.setIfInBounds i (.func (.func 56) #[] #[.pointer (some ⟨p0, 0, none⟩), .pointer (some ⟨q0, 0, none⟩)])) L.length (szX y) (i + 1) := fun k hk => by
        by_cases e : k = i
        · subst e
          refine ⟨p0, q0, by rw [Array.getElem?_setIfInBounds, if_pos rfl, if_pos hci], ?_, hn0⟩
          have := hcap1.butX hb2 (fun e => hn0.1.2 e) (fun e => hn0.2.2 e)
          rw [HLL.out.1] at this
          exact this
        · obtain ⟨p1, q1, h1, h2, h3, h4⟩ := ((HZ.out.2.2.1.but hbt1 (fun b hb => Or.inl (Or.inl hb))).but hb2 (fun b hb => Or.inr hb)) k (by omega)
          exact ⟨p1, q1, by rw [Array.getElem?_setIfInBounds, if_neg (fun h => e h.symm)]; exact h1, h2, h3, h4⟩
      have hs2 : (cs.setIfInBounds i (.func (.func 56) #[] #[.pointer (some ⟨p0, 0, none⟩), .pointer (some ⟨q0, 0, none⟩)])).size = n := by rw [Array.size_setIfInBounds]; exact HZ.out.1
      have hbw : But (four lb sb A R) w W2 := by
        have hb1 := HZ.out.2.2.2.2.trans (hbt1.wide (fun b hb => Or.inl hb))
        rw [← hW2]
        exact hb1.set (Or.inr (by have := HM.out.2.2.2.2.2.1; show w.heap.size ≤ bb; omega)) _
      have HW2 := hid_intro hW2
      have H2 := hid_intro (And.intro hs2 (And.intro k2 (And.intro hw2 hbw)))
      clear hW2 hb2 k2 hr2 hn0 hw2 hs2 hbw hr1 hls1 hbt1 hcap1 hp0 hq0 k1 hfork hltr hbbr hbb2
      generalize cs[i] = ci at d1
      clear hci
      go_wp2_with fail
      rw [HW2.out]
      refine hcall.mono ?_; rintro e w3 ⟨rfl, hr3, hbt3⟩
      have HN : Hid ((cs.setIfInBounds i (.func (.func 56) #[] #[.pointer (some ⟨p0, 0, none⟩), .pointer (some ⟨q0, 0, none⟩)])).size = n ∧ Bk w3 bb (cs.setIfInBounds i (.func (.func 56) #[] #[.pointer (some ⟨p0, 0, none⟩), .pointer (some ⟨q0, 0, none⟩)])) ∧ WaitB w3 lb sb A R bb (cs.setIfInBounds i (.func (.func 56) #[] #[.pointer (some ⟨p0, 0, none⟩), .pointer (some ⟨q0, 0, none⟩)])) L.length (szX y) (i + 1) ∧ Run wb w3 lb sb cap y A Bl R Pb fv (bb :: Z) (L ++ perM y E (i + 1) L.length 0) ∧ But (four lb sb A R) w w3) := hid_intro
        ⟨H2.out.1, H2.out.2.1.but hbt3 HM.out.2.2.2.2.1, H2.out.2.2.1.but hbt3 (fun b hb => Or.inl hb), by
          rw [HLL.out.1] at hr3
          have e3 : (L ++ perM y E i L.length 0 ++ [⟨2, [], ((L.length + i * (szX y + 1) : Nat) : Int) + 1, 0⟩] : List ST).length = L.length + i * (szX y + 1) + 1 := by rw [List.length_append, HLL.out.1]; rfl
          rw [e3] at hr3
          rw [perM_snoc]
          have e4 : (L ++ (perM y E i L.length 0 ++ ⟨2, [], ((L.length + i * (szX y + 1) : Nat) : Int) + 1, 0⟩ :: bld y (L.length + i * (szX y + 1) + 1)) : List ST) = L ++ perM y E i L.length 0 ++ [⟨2, [], ((L.length + i * (szX y + 1) : Nat) : Int) + 1, 0⟩] ++ bld y (L.length + i * (szX y + 1) + 1) := by simp
          rw [e4]
          exact hr3, H2.out.2.2.2.trans hbt3⟩
      clear hcall hr3 hbt3 H2 HW2 d1 z1
      go_wp2_with fail
      go_roundg (n - (i + 1))
      case measure => omega
      case rel => exact ⟨i + 1, _, by omega, rfl, by simp, HN⟩
    · have hJ : ¬ (i : Int) < (n : Int) := by omega
      obtain rfl : i = n := by omega
      go_wp2_with fail
      go_loopg [26] i (fun m s26 wx => ∃ k : Nat, k ≤ i ∧ m = i - k ∧ s26 = .int .i64 (k : Int) ∧ Hid (LZ wx lb sb cap (A :: R :: bb :: Z) (L ++ perM y E i L.length k) ∧ But (two lb sb) wr wx))
      case atStart => exact ⟨0, Nat.zero_le _, rfl, rfl, HZ.out.2.2.2.1.2.2, But.refl _ _⟩
      case round =>
        obtain ⟨k, hk, rfl, rfl, HE⟩ := hrel
        by_cases hkt : k < i
        · have hK : (k : Int) < (i : Int) := by omega
          have hbb2 : ¬ two lb sb bb := fun e => HM.out.2.2.2.2.1 (Or.inl e)
          have kx := HZ.out.2.1.but HE.out.2 hbb2
          obtain ⟨p1, q1, f1, f2, _⟩ := (HZ.out.2.2.1.but HE.out.2 (fun b hb => Or.inl (Or.inl hb))) k hkt
          have cf := (kx.cell k).trans f1
          have hlt1 : (L ++ perM y E i L.length k).length = E := by rw [List.length_append, perM_len y HM.out.2.1.len]; exact HM.out.2.2.2.1
          have hidx : L.length + k * (szX y + 1) < (L ++ perM y E i L.length k).length := by
            obtain ⟨a, h1, _⟩ := perM_turn y HM.out.2.1.len E i L.length k hkt
            have := (List.getElem?_eq_some_iff.1 h1).1
            rw [List.length_append]; omega
          have hcall := fork1Z_any lb sb cap p1 q1 _ _ _ _ HE.out.1 f2 hidx
          rw [setB_per L y HM.out.2.1.len E i k hkt hlt1] at hcall
          clear f1 f2 kx hlt1 hidx hbb2
          go_wp2_with fail
          refine hcall.mono ?_; rintro e w6 ⟨rfl, hls6, hbt6⟩
          have HE2 := hid_intro (And.intro hls6 (HE.out.2.trans hbt6))
          clear hcall hls6 hbt6 cf
          go_wp2_with fail
          go_roundg (i - (k + 1))
          case measure => omega
          case rel => exact ⟨k + 1, by omega, rfl, by simp, HE2⟩
        · have hK : ¬ (k : Int) < (i : Int) := by omega
          obtain rfl : k = i := by omega
          go_wp2_with fail
          go_end0
          rw [HP.out]
          exact ⟨rfl, HE.out.1.sub (fun z hz => by simp only [List.mem_cons] at hz ⊢; rcases hz with hz | hz | hz <;> simp [hz]), HZ.out.2.2.2.2.trans (HE.out.2.wide (fun b hb => Or.inl hb))⟩
end Go.Proofs.Ytcgohdfpmfpfiaa
