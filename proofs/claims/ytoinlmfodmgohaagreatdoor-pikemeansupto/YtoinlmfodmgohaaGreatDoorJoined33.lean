/-
  A part that may come, so many times: compiled. Conditions: there is room.
  A count, compiled. Conditions: there is room.
  A right tree, compiled. Conditions: there is room; nothing in the tree is longer than 2^20.
-/
import Derived.Test.YtoinlmfodmgohaaGreatDoorJoined32
import Derived.Laws.EntriesVeiled
import Derived.Test.YtoinlmfodmgohaaGreatDoorJoined23
namespace Go.Proofs.YtoinlmfodmgohaaGreatDoor
open Go.RowKit
attribute [local go_sem] setCell_drewN alloc_drewN

set_option maxRecDepth 100000 in
set_option maxHeartbeats 6400000 in
theorem perhaps_any (wb : World) (lb sb cap : Nat) (y : RX) (hy : YOK y) (A Bl R Pb : Nat) (fv : Value) (Z : List Nat) (L : List ST) (w : World) (h : Run wb w lb sb cap y A Bl R Pb fv Z L) (n : Nat) (hn : n ≤ 1000) (hroom : L.length + n * (szX y + 1) ≤ cap) :
    Calls Tryz.prog 115 #[.pointer (some ⟨lb, 0, none⟩), .int .i64 (n : Int), .func (.func 132) #[] #[.pointer (some ⟨A, 0, none⟩), .pointer (some ⟨Bl, 0, none⟩), .pointer (some ⟨R, 0, none⟩), .pointer (some ⟨Pb, 0, none⟩)]] w fun e w' => e = .returned (.tuple #[]) ∧ LZ w' lb sb cap (A :: R :: Z) (L ++ rep (fun p => ⟨2, [], (p : Int) + 1, ((L.length + n * (szX y + 1) : Nat) : Int)⟩ :: bld y (p + 1)) (szX y + 1) L.length n) ∧ But (four lb sb A R) w w' := by
  obtain ⟨E, hE⟩ : ∃ E, L.length + n * (szX y + 1) = E := ⟨_, rfl⟩
  rw [hE, ← perM_rep y E n L.length]
  obtain ⟨P, hP⟩ : ∃ P : Ending → World → Prop, P = fun e w' => e = .returned (.tuple #[]) ∧ LZ w' lb sb cap (A :: R :: Z) (L ++ perM y E n L.length n) ∧ But (four lb sb A R) w w' := ⟨_, rfl⟩
  rw [← hP]
  have HP := hid_intro hP
  clear hP
  have hlt := h.2.2.lt
  have hAR := h.lt
  have hBl : Bl < w.heap.size := World.block_lt_of_cell? w _ h.1.cl
  have hPb : Pb < w.heap.size := World.block_lt_of_cell? w _ h.1.cp
  have hwb := h.1.but.size
  have hmk := make_fn w n (by omega)
  obtain ⟨cs0, hcs0⟩ : ∃ cs0, madeCells #[.nilFunc] (n * 1) = cs0 := ⟨_, rfl⟩
  have hsz0 : cs0.size = n := by rw [← hcs0, size_madeCells, Nat.mul_one]
  rw [hcs0] at hmk
  obtain ⟨V, hV⟩ : ∃ V, w.alloc (.cells cs0 1) = V := ⟨_, rfl⟩
  rw [hV] at hmk
  have hbV : Below w.heap.size w V := hV ▸ vb_a (Below.refl _ _) _
  have hVs : w.heap.size < V.heap.size := by rw [← hV]; simp
  have kV : Bk V w.heap.size cs0 := hV ▸ Bk.new _ _ _
  have hrV : Run wb V lb sb cap y A Bl R Pb fv (w.heap.size :: Z) L := by
    have h1 := h.below hbV
    exact ⟨h1.1, h1.2.1, (h.2.2.apart hbV w.heap.size (Nat.le_refl _) hVs).sub (fun z hz => by simp only [List.mem_cons] at hz ⊢; rcases hz with hz | hz | hz | hz <;> simp [hz])⟩
  obtain ⟨bb, hbb⟩ : ∃ bb, w.heap.size = bb := ⟨_, rfl⟩
  have hnf : ¬ four lb sb A R bb := fun e => by rcases e with (e | e) | e | e <;> omega
  rw [hbb] at kV hrV hmk
  have HV0 := hid_intro (And.intro hsz0 (And.intro kV (And.intro hrV hbV)))
  have HM := hid_intro (And.intro hroom (And.intro hy (And.intro hn (And.intro hE (And.intro hnf (And.intro hbb (And.intro (And.intro hwb (And.intro hAR (And.intro hBl hPb))) hlt)))))))
  have hnI : (n : Int) ≤ 1000 := by omega
  clear h hroom hn hE hbV kV hrV hsz0 hcs0 hVs hy hnf hlt hAR hBl hPb hwb hV hbb
  go_enter Tryz.func115, Tryz.ntmps115
  go_wp2_with fail
  clear hmk
  go_loopg [13] n (fun m s13 wr => ∃ (i : Nat) (cs : Array Value), i ≤ n ∧ m = n - i ∧ s13 = .int .i64 (i : Int) ∧ Hid (cs.size = n ∧ Bk wr bb cs ∧ WaitB wr lb sb A R bb cs L.length (szX y) i ∧ Run wb wr lb sb cap y A Bl R Pb fv (bb :: Z) (L ++ perM y E i L.length 0) ∧ But (four lb sb A R) w wr))
  case atStart => exact ⟨0, cs0, Nat.zero_le _, rfl, rfl, HV0.out.1, HV0.out.2.1, fun k hk => absurd hk (by omega), by simpa [perM] using HV0.out.2.2.1, But.ofBelow HV0.out.2.2.2⟩
  case round =>
    obtain ⟨i, cs, hi, rfl, rfl, HZ⟩ := hrel
    by_cases hlt : i < n
    · have hJ : (i : Int) < (n : Int) := by omega
      have hmul : (i + 1) * (szX y + 1) ≤ n * (szX y + 1) := Nat.mul_le_mul_right _ (by omega)
      rw [Nat.succ_mul] at hmul
      have hll : (L ++ perM y E i L.length 0).length = L.length + i * (szX y + 1) := by rw [List.length_append, perM_len y HM.out.2.1.len]
      have hfork := forkZ_any lb sb cap _ _ wr HZ.out.2.2.2.1.2.2 (by rw [hll]; have := HM.out.1; omega)
      have HLL := hid_intro (And.intro hll hmul)
      clear hll hmul
      go_wp2_with fail
      refine hfork.mono ?_; rintro e w1 ⟨p0, q0, rfl, hp0, hq0, hcap1, hls1, hbt1⟩
      have hr1 := HZ.out.2.2.2.1.more hls1 hbt1
      have hbb2 : ¬ two lb sb bb := fun e => HM.out.2.2.2.2.1 (Or.inl e)
      have k1 := HZ.out.2.1.but hbt1 hbb2
      have hci : i < cs.size := by have := HZ.out.1; omega
      have d1 : w1.cell? ⟨bb, i, none⟩ = some cs[i] := (k1.cell i).trans (Array.getElem?_eq_getElem hci)
      have z1 := k1.frz i
      obtain ⟨W2, hW2⟩ : ∃ W2, w1.setCell ⟨bb, i, none⟩ (.func (.func 130) #[] #[.pointer (some ⟨p0, 0, none⟩), .pointer (some ⟨q0, 0, none⟩)]) = W2 := ⟨_, rfl⟩
      have hb2 : But (fun b => b = bb) w1 W2 := hW2 ▸ But.setS (But.refl _ _) i _
      have k2 : Bk W2 bb (cs.setIfInBounds i (.func (.func 130) #[] #[.pointer (some ⟨p0, 0, none⟩), .pointer (some ⟨q0, 0, none⟩)])) := hW2 ▸ k1.set i _ rfl
      have hltr := HZ.out.2.2.2.1.lt
      have hbbr : bb < wr.heap.size := HZ.out.2.1.lt
      have hr2 := hr1.butX hb2 (fun b e => by
        subst e
        have hm := HM.out.2.2.2.2.2.2.1
        have hb := HM.out.2.2.2.2.2.1
        exact ⟨by omega, by simp⟩)
      have hcall := run_call wb lb sb cap y HM.out.2.1 A Bl R Pb fv (bb :: Z) _ W2 hr2 (by rw [List.length_append, HLL.out.1]; simp; have := HM.out.1; have := HLL.out.2; omega)
      have hn0 : (¬ four lb sb A R p0 ∧ p0 ≠ bb) ∧ ¬ four lb sb A R q0 ∧ q0 ≠ bb := ⟨⟨four_not hcap1.2.2.1 hltr.1 hltr.2 hp0, by omega⟩, four_not hcap1.2.2.2 hltr.1 hltr.2 hq0, by omega⟩
      have hw2 : WaitB W2 lb sb A R bb (cs.setIfInBounds i (.func (.func 130) #[] #[.pointer (some ⟨p0, 0, none⟩), .pointer (some ⟨q0, 0, none⟩)])) L.length (szX y) (i + 1) := fun k hk => by
        by_cases e : k = i
        · subst e
          refine ⟨p0, q0, by rw [Array.getElem?_setIfInBounds, if_pos rfl, if_pos hci], ?_, hn0⟩
          have := hcap1.butX hb2 (fun e => hn0.1.2 e) (fun e => hn0.2.2 e)
          rw [HLL.out.1] at this
          exact this
        · obtain ⟨p1, q1, h1, h2, h3, h4⟩ := ((HZ.out.2.2.1.but hbt1 (fun b hb => Or.inl (Or.inl hb))).but hb2 (fun b hb => Or.inr hb)) k (by omega)
          exact ⟨p1, q1, by rw [Array.getElem?_setIfInBounds, if_neg (fun h => e h.symm)]; exact h1, h2, h3, h4⟩
      have hs2 : (cs.setIfInBounds i (.func (.func 130) #[] #[.pointer (some ⟨p0, 0, none⟩), .pointer (some ⟨q0, 0, none⟩)])).size = n := by rw [Array.size_setIfInBounds]; exact HZ.out.1
      have hbw : But (four lb sb A R) w W2 := by
        have hb1 := HZ.out.2.2.2.2.trans (hbt1.wide (fun b hb => Or.inl hb))
        rw [← hW2]
        exact hb1.set (Or.inr (by have := HM.out.2.2.2.2.2.1; show w.heap.size ≤ bb; omega)) _
      have HW2 := hid_intro hW2
      have H2 := hid_intro (And.intro hs2 (And.intro k2 (And.intro hw2 hbw)))
      clear hW2 hb2 k2 hr2 hn0 hw2 hs2 hbw hr1 hls1 hbt1 hcap1 hp0 hq0 k1 hfork hltr hbbr hbb2
      generalize cs[i] = ci at d1
      clear hci
      go_wp2_with fail
      rw [HW2.out]
      refine hcall.mono ?_; rintro e w3 ⟨rfl, hr3, hbt3⟩
      have HN : Hid ((cs.setIfInBounds i (.func (.func 130) #[] #[.pointer (some ⟨p0, 0, none⟩), .pointer (some ⟨q0, 0, none⟩)])).size = n ∧ Bk w3 bb (cs.setIfInBounds i (.func (.func 130) #[] #[.pointer (some ⟨p0, 0, none⟩), .pointer (some ⟨q0, 0, none⟩)])) ∧ WaitB w3 lb sb A R bb (cs.setIfInBounds i (.func (.func 130) #[] #[.pointer (some ⟨p0, 0, none⟩), .pointer (some ⟨q0, 0, none⟩)])) L.length (szX y) (i + 1) ∧ Run wb w3 lb sb cap y A Bl R Pb fv (bb :: Z) (L ++ perM y E (i + 1) L.length 0) ∧ But (four lb sb A R) w w3) := hid_intro
        ⟨H2.out.1, H2.out.2.1.but hbt3 HM.out.2.2.2.2.1, H2.out.2.2.1.but hbt3 (fun b hb => Or.inl hb), by
          rw [HLL.out.1] at hr3
          have e3 : (L ++ perM y E i L.length 0 ++ [⟨2, [], ((L.length + i * (szX y + 1) : Nat) : Int) + 1, 0⟩] : List ST).length = L.length + i * (szX y + 1) + 1 := by rw [List.length_append, HLL.out.1]; rfl
          rw [e3] at hr3
          rw [perM_snoc]
          have e4 : (L ++ (perM y E i L.length 0 ++ ⟨2, [], ((L.length + i * (szX y + 1) : Nat) : Int) + 1, 0⟩ :: bld y (L.length + i * (szX y + 1) + 1)) : List ST) = L ++ perM y E i L.length 0 ++ [⟨2, [], ((L.length + i * (szX y + 1) : Nat) : Int) + 1, 0⟩] ++ bld y (L.length + i * (szX y + 1) + 1) := by simp
          rw [e4]
          exact hr3, H2.out.2.2.2.trans hbt3⟩
      clear hcall hr3 hbt3 H2 HW2 d1 z1
      go_wp2_with fail
      go_roundg (n - (i + 1))
      case measure => omega
      case rel => exact ⟨i + 1, _, by omega, rfl, by simp, HN⟩
    · have hJ : ¬ (i : Int) < (n : Int) := by omega
      obtain rfl : i = n := by omega
      go_wp2_with fail
      go_loopg [26] i (fun m s26 wx => ∃ k : Nat, k ≤ i ∧ m = i - k ∧ s26 = .int .i64 (k : Int) ∧ Hid (LZ wx lb sb cap (A :: R :: bb :: Z) (L ++ perM y E i L.length k) ∧ But (two lb sb) wr wx))
      case atStart => exact ⟨0, Nat.zero_le _, rfl, rfl, HZ.out.2.2.2.1.2.2, But.refl _ _⟩
      case round =>
        obtain ⟨k, hk, rfl, rfl, HE⟩ := hrel
        by_cases hkt : k < i
        · have hK : (k : Int) < (i : Int) := by omega
          have hbb2 : ¬ two lb sb bb := fun e => HM.out.2.2.2.2.1 (Or.inl e)
          have kx := HZ.out.2.1.but HE.out.2 hbb2
          obtain ⟨p1, q1, f1, f2, _⟩ := (HZ.out.2.2.1.but HE.out.2 (fun b hb => Or.inl (Or.inl hb))) k hkt
          have cf := (kx.cell k).trans f1
          have hlt1 : (L ++ perM y E i L.length k).length = E := by rw [List.length_append, perM_len y HM.out.2.1.len]; exact HM.out.2.2.2.1
          have hidx : L.length + k * (szX y + 1) < (L ++ perM y E i L.length k).length := by
            obtain ⟨a, h1, _⟩ := perM_turn y HM.out.2.1.len E i L.length k hkt
            have := (List.getElem?_eq_some_iff.1 h1).1
            rw [List.length_append]; omega
          have hcall := fork1Z_any lb sb cap p1 q1 _ _ _ _ HE.out.1 f2 hidx
          rw [setB_per L y HM.out.2.1.len E i k hkt hlt1] at hcall
          clear f1 f2 kx hlt1 hidx hbb2
          go_wp2_with fail
          refine hcall.mono ?_; rintro e w6 ⟨rfl, hls6, hbt6⟩
          have HE2 := hid_intro (And.intro hls6 (HE.out.2.trans hbt6))
          clear hcall hls6 hbt6 cf
          go_wp2_with fail
          go_roundg (i - (k + 1))
          case measure => omega
          case rel => exact ⟨k + 1, by omega, rfl, by simp, HE2⟩
        · have hK : ¬ (k : Int) < (i : Int) := by omega
          obtain rfl : k = i := by omega
          go_wp2_with fail
          go_end0
          rw [HP.out]
          exact ⟨rfl, HE.out.1.sub (fun z hz => by simp only [List.mem_cons] at hz ⊢; rcases hz with hz | hz | hz <;> simp [hz]), HZ.out.2.2.2.2.trans (HE.out.2.wide (fun b hb => Or.inl hb))⟩
end Go.Proofs.YtoinlmfodmgohaaGreatDoor

namespace Go.Proofs.YtoinlmfodmgohaaGreatDoor
open Go.RowKit
attribute [local go_sem] setCell_drewN alloc_drewN

theorem bldL_one (y : RX) : bldL [y] = bld y := by funext n; simp [bldL]
theorem szL_one (y : RX) : szL [y] = szX y := by simp [szL]
/-- What is new at the end was new. -/
theorem But.fourTwo {w w1 w2 : World} {lb sb A R : Nat} (h1 : But (two lb sb) w w1) (h2 : But (four lb sb A R) w1 w2) (hA : w.heap.size ≤ A) (hR : w.heap.size ≤ R) : But (two lb sb) w w2 :=
  ⟨h2.os.trans h1.os, h2.tape.trans h1.tape, h2.output.trans h1.output, Nat.le_trans h1.size h2.size, fun k hk hn => (h2.block k (Nat.lt_of_lt_of_le hk h1.size) (fun e => by
    rcases e with e | e | e
    · exact hn e
    · omega
    · omega)).trans (h1.block k hk hn)⟩
set_option maxRecDepth 100000 in
set_option maxHeartbeats 6400000 in
theorem repeat1_any (lb sb cap : Nat) (y : RX) (ao : Option Addr) (cp : Nat) (G : Nat → Nat → Value) (w : World) (hp : PartsOK w lb sb cap [y] ao cp G) (hy : YOK y) (ln : Nat) (hln : ln ≤ 1000) (hi : Int) (hhi : hi = -1 ∨ (ln : Int) ≤ hi ∧ hi ≤ 1000) (r : List (Int × Int)) (z : Bool) (B0 Xb : Nat) (Z : List Nat) (L : List ST)
    (c0 : w.cell? ⟨B0, 0, none⟩ = some (.pointer (some ⟨lb, 0, none⟩))) (c2 : w.cell? ⟨Xb, 2, none⟩ = some (.int .i64 (ln : Int))) (c3 : w.cell? ⟨Xb, 3, none⟩ = some (.int .i64 hi)) (c5 : w.cell? ⟨Xb, 5, none⟩ = some (.slice ao 1 cp)) (n0 : ¬ two lb sb B0) (nx : ¬ two lb sb Xb)
    (h : LZ w lb sb cap Z L) (hroom : L.length + szX (.mk 5 r (ln : Int) hi z [y]) ≤ cap) :
    Calls Tryz.prog 111 #[.pointer (some ⟨B0, 0, none⟩), .pointer (some ⟨Xb, 0, none⟩)] w fun e w' => e = .returned (.tuple #[]) ∧ LZ w' lb sb cap Z (L ++ bld (.mk 5 r (ln : Int) hi z [y]) L.length) ∧ But (two lb sb) w w' := by
  obtain ⟨b, off, rfl, hnb, hcells⟩ := hp.cells.resolve_left (by simp)
  have hc0 := hcells 0 (by simp)
  simp only [Nat.zero_mul, Nat.add_zero] at hc0
  obtain ⟨x0, x1, x2, x3, x4, x5, x6, x7, x8, x9, e0, e1, e2, e3, e4, e5⟩ := hp.six 0 (by simp)
  have hpart := fun w' hb => hp.part 0 (by simp) w' hb
  rw [e0, e1, e2, e3, e4, e5] at hpart
  have HS : Hid (∀ w', But (two lb sb) w w' → w'.cell? ⟨B0, 0, none⟩ = some (.pointer (some ⟨lb, 0, none⟩)) ∧ w'.cell? ⟨Xb, 2, none⟩ = some (.int .i64 (ln : Int)) ∧ w'.cell? ⟨Xb, 3, none⟩ = some (.int .i64 hi) ∧ w'.cell? ⟨Xb, 5, none⟩ = some (.slice (some ⟨b, off, none⟩) 1 cp) ∧ w'.cell? ⟨b, off, none⟩ = some (.int .i64 x0) ∧ w'.cell? ⟨b, off + 1, none⟩ = some (.slice x1 x2 x3) ∧ w'.cell? ⟨b, off + 2, none⟩ = some (.int .i64 x4) ∧ w'.cell? ⟨b, off + 3, none⟩ = some (.int .i64 x5) ∧ w'.cell? ⟨b, off + 4, none⟩ = some (.bool x6) ∧ w'.cell? ⟨b, off + 5, none⟩ = some (.slice x7 x8 x9)) := hid_intro (fun w' hb =>
    ⟨cell_but c0 n0 hb, cell_but c2 nx hb, cell_but c3 nx hb, cell_but c5 nx hb, (cell_but (hc0 0 (by omega)) hnb hb).trans (by rw [e0]), (cell_but (hc0 1 (by omega)) hnb hb).trans (by rw [e1]), (cell_but (hc0 2 (by omega)) hnb hb).trans (by rw [e2]), (cell_but (hc0 3 (by omega)) hnb hb).trans (by rw [e3]), (cell_but (hc0 4 (by omega)) hnb hb).trans (by rw [e4]), (cell_but (hc0 5 (by omega)) hnb hb).trans (by rw [e5])⟩)
  rw [szX_5, szL_one, Int.toNat_natCast] at hroom
  rw [bld_5, szL_one, bldL_one, Int.toNat_natCast]
  obtain ⟨P, hP⟩ : ∃ P : Ending → World → Prop, P = fun e w' => e = .returned (.tuple #[]) ∧ LZ w' lb sb cap Z (L ++ (if hi = -1 then rep (bld y) (szX y) L.length ln ++ (⟨2, [], ((L.length + ln * szX y : Nat) : Int) + 1, ((L.length + ln * szX y + (szX y + 2) : Nat) : Int)⟩ :: bld y (L.length + ln * szX y + 1) ++ [⟨2, [], ((L.length + ln * szX y : Nat) : Int), ((L.length + ln * szX y : Nat) : Int)⟩])
      else rep (bld y) (szX y) L.length ln ++ rep (fun p => ⟨2, [], (p : Int) + 1, ((L.length + ln * szX y + (hi - (ln : Int)).toNat * (szX y + 1) : Nat) : Int)⟩ :: bld y (p + 1)) (szX y + 1) (L.length + ln * szX y) (hi - (ln : Int)).toNat)) ∧ But (two lb sb) w w' := ⟨_, rfl⟩
  rw [← hP]
  have HP := hid_intro hP
  have HPA := hid_intro (fun w' (hb : Below w.heap.size w w') => hpart w' (But.ofBelow hb))
  have HOF := hid_intro (fun w' fv (hb : Below w.heap.size w w') (hf : FnOK w' lb sb cap y fv) => often_any lb sb cap y fv Z L w' hf (h.below hb))
  have HM := hid_intro (And.intro hroom (And.intro hy (And.intro hln hhi)))
  clear hP hp hcells hc0 hpart h c0 c2 c3 c5 n0 nx hnb e0 e1 e2 e3 e4 e5 hroom hy hln hhi
  go_enter Tryz.func111, Tryz.ntmps111
  go_wp2_with fail
  go_region_held3 (fun w' => w'.cell? ⟨B0, 0, none⟩ = some (.pointer (some ⟨lb, 0, none⟩)) ∧ w'.cell? ⟨Xb, 2, none⟩ = some (.int .i64 (ln : Int)) ∧ w'.cell? ⟨Xb, 3, none⟩ = some (.int .i64 hi) ∧ w'.cell? ⟨Xb, 5, none⟩ = some (.slice (some ⟨b, off, none⟩) 1 cp) ∧ w'.cell? ⟨b, off, none⟩ = some (.int .i64 x0) ∧ w'.cell? ⟨b, off + 1, none⟩ = some (.slice x1 x2 x3) ∧ w'.cell? ⟨b, off + 2, none⟩ = some (.int .i64 x4) ∧ w'.cell? ⟨b, off + 3, none⟩ = some (.int .i64 x5) ∧ w'.cell? ⟨b, off + 4, none⟩ = some (.bool x6) ∧ w'.cell? ⟨b, off + 5, none⟩ = some (.slice x7 x8 x9)) (first | (refine HS.out _ ?_; with_reducible repeat (first | exact But.refl _ _ | refine But.drew ?_ | refine But.below ?_ hb5 | refine But.below ?_ hb4)) | fail) (first | (go_at_call 51; refine (HPA.out _ ?_).mono ?_; (with_reducible repeat (first | exact Below.refl _ _ | refine vb_d ?_)); rintro e w4 ⟨v4, rfl, hfn, hb4⟩) | (go_at_call 112; refine (HOF.out _ _ ?_ hfn).mono ?_; (with_reducible repeat (first | exact Below.refl _ _ | refine vb_d ?_ | refine vb_t ?_ hb4)); rintro e w5 ⟨A, Bl, R, Pb, rfl, hoft, host, hlz, hb5⟩) | fail)
  all_goals
    have hb05 : Below w.heap.size w w5 := by with_reducible repeat (first | exact Below.refl _ _ | refine vb_d ?_ | refine vb_t ?_ hb5 | refine vb_t ?_ hb4)
    have hb04 : Below w.heap.size w w4 := by with_reducible repeat (first | exact Below.refl _ _ | refine vb_d ?_ | refine vb_t ?_ hb4)
    have hge : w.heap.size ≤ A ∧ w.heap.size ≤ R := ⟨Nat.le_trans hb04.size hoft.ge.1, Nat.le_trans hb04.size hoft.ge.2⟩
    have hrun : Run w4 w5 lb sb cap y A Bl R Pb v4 Z L := ⟨hoft, ⟨none, host⟩, hlz⟩
    have hrm : L.length + ln * szX y ≤ cap := by
      have := HM.out.1
      by_cases c : hi = -1
      · rw [if_pos c] at this; omega
      · rw [if_neg c] at this; omega
    have htm := listTimes_any w4 lb sb cap y HM.out.2.1 A Bl R Pb v4 Z L w5 hrun ln HM.out.2.2.1 hrm
    have HB5 := hid_intro (But.ofBelow (X := two lb sb) hb05)
    have HGE := hid_intro hge
    obtain ⟨s0, s2, s3, s5, _⟩ := HS.out w5 (But.ofBelow hb05)
    clear hb04 hb05 hge hrun hrm hoft host hlz hb5 hb4 hfn HOF HPA
    go_wp2_with fail
    refine htm.mono ?_; rintro e w6 ⟨rfl, hrun6, hbt6⟩
    clear s0 s2 s3 s5 htm
    have hb6 : But (two lb sb) w w6 := HB5.out.fourTwo hbt6 HGE.out.1 HGE.out.2
    obtain ⟨s0, s2, s3, s5, _⟩ := HS.out w6 hb6
    have hl6 : (L ++ rep (bld y) (szX y) L.length ln).length = L.length + ln * szX y := by rw [List.length_append, rep_len _ _ HM.out.2.1.len]
    have HB6 := hid_intro hb6
    rcases HM.out.2.2.2 with hh | hh
    · subst hh
      have hlo := loop_any w4 lb sb cap y HM.out.2.1 A Bl R Pb v4 Z _ w6 hrun6 (by rw [hl6]; have := HM.out.1; rw [if_pos rfl] at this; omega)
      rw [hl6] at hlo
      have HE : Hid (∀ w', LZ w' lb sb cap (A :: R :: Z) (L ++ rep (bld y) (szX y) L.length ln ++ (⟨2, [], ((L.length + ln * szX y : Nat) : Int) + 1, ((L.length + ln * szX y + (szX y + 2) : Nat) : Int)⟩ :: bld y (L.length + ln * szX y + 1) ++ [⟨2, [], ((L.length + ln * szX y : Nat) : Int), ((L.length + ln * szX y : Nat) : Int)⟩])) → But (four lb sb A R) w6 w' → P (.returned (.tuple #[])) w') := hid_intro (fun w' h1 h2 => by
        rw [HP.out]
        refine ⟨rfl, ?_, HB6.out.fourTwo h2 HGE.out.1 HGE.out.2⟩
        rw [if_pos rfl, ← List.append_assoc]
        exact h1.sub (fun z hz => by simp [hz]))
      clear hrun6 hbt6 hl6 hb6
      go_wp2_with fail
      refine hlo.mono ?_; rintro e w7 ⟨rfl, hls7, hbt7⟩
      go_wp2_with fail
      go_end0
      exact HE.out w7 hls7 hbt7
    · have hne : ¬ hi = -1 := by omega
      obtain ⟨c, hc⟩ : ∃ c : Nat, hi - (ln : Int) = (c : Int) := ⟨(hi - (ln : Int)).toNat, by omega⟩
      have hcn : (hi - (ln : Int)).toNat = c := by omega
      have hpe := perhaps_any w4 lb sb cap y HM.out.2.1 A Bl R Pb v4 Z _ w6 hrun6 c (by omega) (by rw [hl6]; have := HM.out.1; rw [if_neg hne, hcn] at this; omega)
      rw [hl6] at hpe
      have HE : Hid (∀ w', LZ w' lb sb cap (A :: R :: Z) (L ++ rep (bld y) (szX y) L.length ln ++ rep (fun p => ⟨2, [], (p : Int) + 1, ((L.length + ln * szX y + c * (szX y + 1) : Nat) : Int)⟩ :: bld y (p + 1)) (szX y + 1) (L.length + ln * szX y) c) → But (four lb sb A R) w6 w' → P (.returned (.tuple #[])) w') := hid_intro (fun w' h1 h2 => by
        rw [HP.out]
        refine ⟨rfl, ?_, HB6.out.fourTwo h2 HGE.out.1 HGE.out.2⟩
        rw [if_neg hne, hcn, ← List.append_assoc]
        exact h1.sub (fun z hz => by simp [hz]))
      have hw1 : wrap64 (hi - (ln : Int)) = (c : Int) := by rw [wrap64_of (by omega) (by omega)]; exact hc
      have hw2 : IntKind.i64.wrap (hi - (ln : Int)) = (c : Int) := by simp [IntKind.wrap, IntKind.bits, IntKind.signed]; omega
      clear hrun6 hbt6 hl6 hb6 hcn hc hh
      go_wp2_with fail
      refine hpe.mono ?_; rintro e w7 ⟨rfl, hls7, hbt7⟩
      go_wp2_with fail
      go_end0
      exact HE.out w7 hls7 hbt7
end Go.Proofs.YtoinlmfodmgohaaGreatDoor

namespace Go.Proofs.YtoinlmfodmgohaaGreatDoor
open Go.RowKit
attribute [local go_sem] setCell_drewN alloc_drewN

theorem rep_mem (g : Nat → List ST) (q : Nat) (s : ST) : ∀ c n, s ∈ rep g q n c → ∃ m, s ∈ g m
  | 0, _, h => by simp [rep] at h
  | c + 1, n, h => by
    rcases List.mem_append.1 h with h | h
    · exact ⟨n, h⟩
    · exact rep_mem g q s c _ h
theorem bldL_mem (s : ST) : ∀ (l : List RX) (n : Nat), s ∈ bldL l n → ∃ x ∈ l, ∃ m, s ∈ bld x m
  | [], _, h => by simp [bldL] at h
  | x :: l, n, h => by
    rcases List.mem_append.1 h with h | h
    · exact ⟨x, by simp, n, h⟩
    · obtain ⟨y, hy, m, hm⟩ := bldL_mem s l _ h
      exact ⟨y, by simp [hy], m, hm⟩
theorem bldA_mem (s : ST) : ∀ (l : List RX) (n e : Nat), s ∈ bldA l n e → (∃ x ∈ l, ∃ m, s ∈ bld x m) ∨ s.r = []
  | [], _, _, h => by simp [bldA] at h
  | x :: l, n, e, h => by
    rw [bldA] at h
    rcases List.mem_append.1 h with h | h
    · by_cases h0 : l.length = 0
      · rw [if_pos h0] at h
        exact Or.inl ⟨x, by simp, n, h⟩
      · rw [if_neg h0] at h
        rcases List.mem_cons.1 h with rfl | h
        · exact Or.inr rfl
        · rcases List.mem_append.1 h with h | h
          · exact Or.inl ⟨x, by simp, _, h⟩
          · obtain rfl := List.mem_singleton.1 h
            exact Or.inr rfl
    · rcases bldA_mem s l _ e h with ⟨y, hy, m, hm⟩ | h
      · exact Or.inl ⟨y, by simp [hy], m, hm⟩
      · exact Or.inr h
theorem bld_rl (N : Nat) : ∀ (t : RX), BdX N t → ∀ n, ∀ s ∈ bld t n, s.r.length ≤ N := by
  intro t
  induction t using RX.ind with
  | h k r lo hi z s ih =>
    intro hb n st hst
    have hx : ∀ x ∈ s, ∀ m, st ∈ bld x m → st.r.length ≤ N := fun x hx m hm => ih x hx (hb.s x hx) m st hm
    have hL : ∀ m, st ∈ bldL s m → st.r.length ≤ N := fun m hm => by
      obtain ⟨x, h1, m', h2⟩ := bldL_mem st s m hm
      exact hx x h1 m' h2
    by_cases c5 : k = 5
    · subst c5
      rw [bld_5] at hst
      by_cases hh : hi = -1
      · rw [if_pos hh] at hst
        rcases List.mem_append.1 hst with h | h
        · obtain ⟨m, hm⟩ := rep_mem _ _ _ _ _ h
          exact hL m hm
        · rcases List.mem_append.1 h with h | h
          · rcases List.mem_cons.1 h with rfl | h
            · exact Nat.zero_le _
            · exact hL _ h
          · obtain rfl := List.mem_singleton.1 h
            exact Nat.zero_le _
      · rw [if_neg hh] at hst
        rcases List.mem_append.1 hst with h | h
        · obtain ⟨m, hm⟩ := rep_mem _ _ _ _ _ h
          exact hL m hm
        · obtain ⟨m, hm⟩ := rep_mem _ _ _ _ _ h
          rcases List.mem_cons.1 hm with rfl | hm
          · exact Nat.zero_le _
          · exact hL _ hm
    · rw [bld] at hst
      by_cases c2 : k = 2
      · rw [if_pos c2] at hst
        obtain rfl := List.mem_singleton.1 hst
        exact hb.r
      · rw [if_neg c2] at hst
        by_cases c6 : k = 6
        · rw [if_pos c6] at hst; obtain rfl := List.mem_singleton.1 hst; exact Nat.zero_le _
        · rw [if_neg c6] at hst
          by_cases c7 : k = 7
          · rw [if_pos c7] at hst; obtain rfl := List.mem_singleton.1 hst; exact Nat.zero_le _
          · rw [if_neg c7] at hst
            by_cases c8 : k = 8
            · rw [if_pos c8] at hst; obtain rfl := List.mem_singleton.1 hst; exact Nat.zero_le _
            · rw [if_neg c8] at hst
              by_cases c9 : k = 9
              · rw [if_pos c9] at hst; obtain rfl := List.mem_singleton.1 hst; exact Nat.zero_le _
              · rw [if_neg c9] at hst
                by_cases c3 : k = 3
                · rw [if_pos c3] at hst; exact hL _ hst
                · rw [if_neg c3] at hst
                  by_cases c4 : k = 4
                  · rw [if_pos c4] at hst
                    rcases bldA_mem st s _ _ hst with ⟨x, h1, m', h2⟩ | h
                    · exact hx x h1 m' h2
                    · rw [h]; exact Nat.zero_le _
                  · rw [if_neg c4, if_neg c5] at hst; simp at hst
theorem yok_of {t : RX} {d : Nat} (hr : rightB d t = true) (hb : BdX 1048576 t) : YOK t :=
  ⟨bld_len t d hr, fun M n hM s hs => bld_good t d hr M n hM s hs, fun n s hs => Nat.le_trans (bld_rl 1048576 t hb n s hs) (by omega)⟩
theorem bld_3 (r : List (Int × Int)) (lo hi : Int) (z : Bool) (s : List RX) (n : Nat) : bld (.mk 3 r lo hi z s) n = bldL s n := by rw [bld]; rfl
theorem bld_4 (r : List (Int × Int)) (lo hi : Int) (z : Bool) (s : List RX) (n : Nat) : bld (.mk 4 r lo hi z s) n = bldA s n (n + (szL s + (s.length - 1) * 2)) := by rw [bld]; rfl
theorem szX_3 (r : List (Int × Int)) (lo hi : Int) (z : Bool) (s : List RX) : szX (.mk 3 r lo hi z s) = szL s := by rw [szX]; rfl
theorem szX_4 (r : List (Int × Int)) (lo hi : Int) (z : Bool) (s : List RX) : szX (.mk 4 r lo hi z s) = szL s + (s.length - 1) * 2 := by rw [szX]; rfl
set_option maxRecDepth 100000 in
theorem part1_any (w : World) : Calls Tryz.prog 84 #[] w fun e w' => e = .returned (.tuple #[]) ∧ Below w.heap.size w w' := by
  go_enter Tryz.func84, Tryz.ntmps84
  go_wp2_with fail
  go_end0
  exact ⟨rfl, Below.refl _ _⟩
set_option maxRecDepth 100000 in
theorem row_any (lb sb : Nat) (ao : Option Addr) (n c : Nat) (w : World) (hlb : lb < w.heap.size ∧ sb < w.heap.size) :
    Calls Tryz.prog 81 #[.pointer (some ⟨lb, 0, none⟩), .slice ao n c] w fun e w' => ∃ p q, e = .returned (.func (.func 107) #[] #[.pointer (some ⟨p, 0, none⟩), .pointer (some ⟨q, 0, none⟩)]) ∧ w'.cell? ⟨p, 0, none⟩ = some (.slice ao n c) ∧ w'.cell? ⟨q, 0, none⟩ = some (.pointer (some ⟨lb, 0, none⟩)) ∧ ¬ two lb sb p ∧ ¬ two lb sb q ∧ Below w.heap.size w w' := by
  obtain ⟨W, hW⟩ : ∃ W, (w.alloc (.cells #[.pointer (some ⟨lb, 0, none⟩)] 88)).alloc (.cells #[.slice ao n c] 29) = W := ⟨_, rfl⟩
  have hbW : Below w.heap.size w W := hW ▸ vb_a (vb_a (Below.refl _ _) _) _
  have k1 : Bk W w.heap.size #[.pointer (some ⟨lb, 0, none⟩)] := hW ▸ (Bk.new _ _ _).al _
  have k2 : Bk W (w.heap.size + 1) #[.slice ao n c] := hW ▸ Bk.new' _ _ _ _ (by simp)
  have HF : Hid (W.cell? ⟨w.heap.size + 1, 0, none⟩ = some (.slice ao n c) ∧ W.cell? ⟨w.heap.size, 0, none⟩ = some (.pointer (some ⟨lb, 0, none⟩)) ∧ ¬ two lb sb (w.heap.size + 1) ∧ ¬ two lb sb w.heap.size ∧ Below w.heap.size w W) := hid_intro ⟨k2.cell 0, k1.cell 0, fun e => by rcases e with e | e <;> omega, fun e => by rcases e with e | e <;> omega, hbW⟩
  have HW := hid_intro hW
  clear hW hbW k1 k2 hlb
  go_enter Tryz.func81, Tryz.ntmps81
  go_wp2_with fail
  go_ret
  rw [HW.out]
  exact ⟨_, _, rfl, HF.out⟩
set_option maxRecDepth 100000 in
theorem choice_any (lb sb : Nat) (ao : Option Addr) (n c : Nat) (hn : 2 ≤ n ∧ n ≤ 1048576) (w : World) (hlb : lb < w.heap.size ∧ sb < w.heap.size) :
    Calls Tryz.prog 82 #[.pointer (some ⟨lb, 0, none⟩), .slice ao n c] w fun e w' => ∃ p q r, e = .returned (.func (.func 108) #[] #[.pointer (some ⟨p, 0, none⟩), .pointer (some ⟨q, 0, none⟩), .pointer (some ⟨r, 0, none⟩)]) ∧ w'.cell? ⟨p, 0, none⟩ = some (.slice ao n c) ∧ w'.cell? ⟨q, 0, none⟩ = some (.int .i64 ((n : Int) - 1)) ∧ w'.cell? ⟨r, 0, none⟩ = some (.pointer (some ⟨lb, 0, none⟩)) ∧ (¬ two lb sb p ∧ ¬ two lb sb q ∧ ¬ two lb sb r) ∧ Below w.heap.size w w' := by
  obtain ⟨W, hW⟩ : ∃ W, ((w.alloc (.cells #[.pointer (some ⟨lb, 0, none⟩)] 88)).alloc (.cells #[.slice ao n c] 29)).alloc (.cells #[.int .i64 ((n : Int) - 1)] 3) = W := ⟨_, rfl⟩
  have hbW : Below w.heap.size w W := hW ▸ vb_a (vb_a (vb_a (Below.refl _ _) _) _) _
  have k1 : Bk W w.heap.size #[.pointer (some ⟨lb, 0, none⟩)] := hW ▸ ((Bk.new _ _ _).al _).al _
  have k2 : Bk W (w.heap.size + 1) #[.slice ao n c] := hW ▸ (Bk.new' _ _ _ _ (by simp)).al _
  have k3 : Bk W (w.heap.size + 2) #[.int .i64 ((n : Int) - 1)] := hW ▸ Bk.new' _ _ _ _ (by simp)
  have HF := hid_intro (And.intro (k2.cell 0) (And.intro (k3.cell 0) (And.intro (k1.cell 0) (And.intro (show ¬ two lb sb (w.heap.size + 1) ∧ ¬ two lb sb (w.heap.size + 2) ∧ ¬ two lb sb w.heap.size from ⟨fun e => by rcases e with e | e <;> omega, fun e => by rcases e with e | e <;> omega, fun e => by rcases e with e | e <;> omega⟩) hbW))))
  have HW := hid_intro hW
  have hw1 : wrap64 ((n : Int) - 1) = (n : Int) - 1 := wrap64_of (by omega) (by omega)
  have hI : (n : Int) ≤ 1048576 := by omega
  clear hW hbW k1 k2 k3 hlb hn
  go_enter Tryz.func82, Tryz.ntmps82
  go_wp2_with fail
  go_ret
  rw [HW.out]
  exact ⟨_, _, _, rfl, HF.out⟩
set_option maxRecDepth 100000 in
theorem repeat_fn (lb sb : Nat) (k : Int) (a1 : Option Addr) (rn c1 : Nat) (lo hi : Int) (z : Bool) (ao : Option Addr) (n c : Nat) (w : World) (hlb : lb < w.heap.size ∧ sb < w.heap.size) :
    Calls Tryz.prog 83 #[.pointer (some ⟨lb, 0, none⟩), .agg #[.int .i64 k, .slice a1 rn c1, .int .i64 lo, .int .i64 hi, .bool z, .slice ao n c]] w fun e w' => ∃ p q, e = .returned (.func (.func 111) #[] #[.pointer (some ⟨p, 0, none⟩), .pointer (some ⟨q, 0, none⟩)]) ∧ w'.cell? ⟨p, 0, none⟩ = some (.pointer (some ⟨lb, 0, none⟩)) ∧ (w'.cell? ⟨q, 2, none⟩ = some (.int .i64 lo) ∧ w'.cell? ⟨q, 3, none⟩ = some (.int .i64 hi) ∧ w'.cell? ⟨q, 5, none⟩ = some (.slice ao n c)) ∧ ¬ two lb sb p ∧ ¬ two lb sb q ∧ Below w.heap.size w w' := by
  obtain ⟨W, hW⟩ : ∃ W, (w.alloc (.cells #[.pointer (some ⟨lb, 0, none⟩)] 88)).alloc (.cells #[.int .i64 k, .slice a1 rn c1, .int .i64 lo, .int .i64 hi, .bool z, .slice ao n c] 31) = W := ⟨_, rfl⟩
  have hbW : Below w.heap.size w W := hW ▸ vb_a (vb_a (Below.refl _ _) _) _
  have k1 : Bk W w.heap.size #[.pointer (some ⟨lb, 0, none⟩)] := hW ▸ (Bk.new _ _ _).al _
  have k2 : Bk W (w.heap.size + 1) #[.int .i64 k, .slice a1 rn c1, .int .i64 lo, .int .i64 hi, .bool z, .slice ao n c] := hW ▸ Bk.new' _ _ _ _ (by simp)
  have HF : Hid (W.cell? ⟨w.heap.size, 0, none⟩ = some (.pointer (some ⟨lb, 0, none⟩)) ∧ (W.cell? ⟨w.heap.size + 1, 2, none⟩ = some (.int .i64 lo) ∧ W.cell? ⟨w.heap.size + 1, 3, none⟩ = some (.int .i64 hi) ∧ W.cell? ⟨w.heap.size + 1, 5, none⟩ = some (.slice ao n c)) ∧ ¬ two lb sb w.heap.size ∧ ¬ two lb sb (w.heap.size + 1) ∧ Below w.heap.size w W) := hid_intro ⟨k1.cell 0, ⟨k2.cell 2, k2.cell 3, k2.cell 5⟩, fun e => by rcases e with e | e <;> omega, fun e => by rcases e with e | e <;> omega, hbW⟩
  have HW := hid_intro hW
  clear hW hbW k1 k2 hlb
  go_enter Tryz.func83, Tryz.ntmps83
  go_wp2_with fail
  go_ret
  rw [HW.out]
  exact ⟨_, _, rfl, HF.out⟩
end Go.Proofs.YtoinlmfodmgohaaGreatDoor
