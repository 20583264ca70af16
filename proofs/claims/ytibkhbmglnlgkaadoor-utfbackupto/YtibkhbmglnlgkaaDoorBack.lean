/-
  UtfBack answers true for every bytes, and leaves them as they were. Conditions: the bytes, with the table, are of bulk at most 1048576 (the second form); the table of greatest code points as the program's text lays it (the card ties it).
-/
import Derived.Test.YtibkhbmglnlgkaaDoorRow
import Derived.Test.YtibkhbmglnlgkaaDoorM3
import Derived.Test.YtibkhbmglnlgkaaDoorSame
namespace Go.Proofs.YtibkhbmglnlgkaaDoor
open Go.ChangeShapes Go.WideShapes Go.ChangeAt Go.RowKit

set_option maxHeartbeats 400000 in
theorem back_bad (v : Value) (n : Nat) (f : Nat → Int) (w : World) (hT : Tab w) (h0 : 0 < w.heap.size) (hR : Row w v n f) (hg : (good n f).2 = false) :
    Calls Tryd.prog 5 #[v] w fun e w' => e = .returned (.bool true) ∧ Below w.heap.size w w' := by
  have hp := points_none v n f w hT hR hg
  have hgd := fun q => good_any v n f (w.drewN q) (hT.drewN q) (hR.drewN q)
  have hh := fun q => heads_any (w.drewN q) (hT.drewN q) h0
  have hle := good_le n f
  rw [hg] at hgd
  obtain ⟨a, cap, e0, m0⟩ := hR.shape
  subst e0
  unfold maxLen at m0
  generalize (good n f).1 = gd at *
  have k1 : ¬ (n : Int) < (gd : Int) := by omega
  have k2 : ¬ (gd : Int) < 0 := by omega
  clear hg
  go_enter Tryd.func5, Tryd.ntmps5
  go_wp2_with fail
  refine hp.mono ?_
  rintro e w' ⟨rfl, q, rfl⟩
  go_wp2_with fail
  refine (hgd q).mono ?_
  rintro e w' ⟨rfl, q2, rfl⟩
  have hh2 := hh (q + q2)
  go_wp2_with fail
  refine hh2.mono ?_
  rintro e w1 ⟨rfl, hb⟩
  go_wp2
  go_ret
  exact ⟨rfl, (below_drewN (Below.refl _ _) _).trans hb⟩

/-- What stands at the head of each round: the first bytes, put together again. -/
def BkRel (n : Nat) (f : Nat → Int) (w1 : World) (t i : Value) (wr : World) : Prop :=
  ∃ j p k : Nat, p ≤ n ∧ n ≤ p + k ∧ (goodF n f k p).2 = true ∧ i = .int .i64 j ∧ j ≤ (points n f).length ∧ (points n f).drop j = pointsF n f k p ∧ Row wr t p f ∧ Below w1.heap.size w1 wr

theorem BkRel_next (n : Nat) (f : Nat → Int) (lo : ∀ i, 0 ≤ f i) (up : ∀ i, f i < 256) (w1 wr w2 : World) (r : Value) (p k m j : Nat) (hb : Below w1.heap.size w1 wr) (hk : n ≤ p + (k + 1)) (hs : stepF (n - p) (fun i => f (p + i)) = (m, true)) (hm : p + m ≤ n) (h1 : 1 ≤ m)
    (hg : (goodF n f k (p + m)).2 = true) (hj : j < (points n f).length) (hd : (points n f).drop (j + 1) = pointsF n f k (p + m))
    (ho : w2.ownsRow wr.heap.size 5 1 r (p + encN (ptF (fun i => f (p + i)) m)) (vals (p + encN (ptF (fun i => f (p + i)) m)) (catF p f (encF (ptF (fun i => f (p + i)) m))))) (hb2 : Below wr.heap.size wr w2) :
    BkRel n f w1 r (.int .i64 ((j : Int) + 1)) w2 := by
  have e1 := encN_pt _ _ _ (fun i => lo (p + i)) hs
  have e2 := encF_pt _ _ _ (fun i => lo (p + i)) hs
  rw [e1] at ho
  have e3 : vals (p + m) (catF p f (encF (ptF (fun i => f (p + i)) m))) = vals (p + m) f := by
    unfold vals
    apply List.map_congr_left
    intro i hi
    have hi : i < p + m := by simpa using hi
    unfold catF
    split
    · rfl
    · rw [e2 (i - p) (by omega)]
      rw [show p + (i - p) = i from by omega]
  rw [e3] at ho
  exact ⟨j + 1, p + m, k, hm, by omega, hg, rfl, by omega, hd, Row.of_own lo up ho, hb.trans (hb2.mono hb.size)⟩

set_option maxHeartbeats 400000 in
theorem back_ok (v : Value) (n : Nat) (f : Nat → Int) (w : World) (hT : Tab w) (h0 : 0 < w.heap.size) (hR : Row w v n f) (lo : ∀ i, 0 ≤ f i) (up : ∀ i, f i < 256) (hn : n ≤ 1048576) (hg : (good n f).2 = true) :
    Calls Tryd.prog 5 #[v] w fun e w' => e = .returned (.bool true) ∧ Below w.heap.size w w' := by
  have hp := points_some v n f w hT hR lo up (by omega) hg
  have HG : Hid ((good n f).2 = true) := hg
  have HC : Hid (countS (txt n f).data.toList = (points n f).length) := count_whole n f lo up hg
  have hpl : (points n f).length ≤ n := by
    have h1 := count_whole n f lo up hg
    have h2 := countS_le (txt n f).data.toList
    have h3 : (txt n f).data.toList.length = n := txt_size n f
    omega
  have hw := good_whole n f hg
  obtain ⟨a, cap, e0, m0⟩ := hR.shape
  subst e0
  unfold maxLen at m0
  clear hg
  go_enter Tryd.func5, Tryd.ntmps5
  go_wp2_with fail
  refine hp.mono ?_
  rintro e w1 ⟨r, rfl, ho, hb1⟩
  have hi := IRow.of_own ho
  have hT1 := hT.below hb1 h0
  have hz1 := hb1.size
  have hR1 := hR.below hb1
  have hgd := good_any _ n f w1 hT1 hR1
  rw [HG.out, hw] at hgd
  obtain ⟨a', cap', e1, m1⟩ := hi.len
  subst e1
  unfold maxLen at m1
  have g1 : ((n : Int) == (n : Int)) = true := by simp
  have k1 : ¬ (n : Int) < (n : Int) := by omega
  have k2 : ¬ (n : Int) < 0 := by omega
  clear hp ho hw
  go_wp2_with fail
  refine hgd.mono ?_
  rintro e w' ⟨rfl, q, rfl⟩
  clear hgd
  go_wp2_with fail
  go_loopw [7, 8] (fun t i wr => BkRel n f w1 t i wr) (fun _ i _ => (points n f).length - (intOf i).toNat)
  case atStart => exact ⟨0, 0, n, Nat.zero_le _, by omega, HG.out, rfl, Nat.zero_le _, rfl, .inl ⟨rfl, none, 0, rfl, fun _ => rfl⟩, below_drewN (Below.refl _ _) q⟩
  case round =>
    obtain ⟨j, p, k, hp, hk, hgk, rfl, hj, hd, hRt, hb⟩ := hrel
    by_cases hlt : j < (points n f).length
    · have hpn : p < n := by
        by_cases z : p < n
        · exact z
        · have e1 : pointsF n f k p = [] := by cases k with
            | zero => rfl
            | succ k => simp [pointsF, show n ≤ p by omega]
          rw [e1] at hd
          have := List.drop_eq_nil_iff.1 hd
          omega
      obtain ⟨k', rfl⟩ : ∃ k', k = k' + 1 := ⟨k - 1, by omega⟩
      obtain ⟨m, hs, m1', hm, hg', hpt⟩ := good_step n f k' p hpn hgk
      rw [hpt] at hd
      have hdd : (points n f).getD j 0 = ptF (fun i => f (p + i)) m ∧ (points n f).drop (j + 1) = pointsF n f k' (p + m) := by
        rw [List.drop_eq_getElem_cons hlt] at hd
        injection hd with e1 e2
        exact ⟨by rw [List.getD_eq_getElem?_getD, List.getElem?_eq_getElem hlt]; exact e1, e2⟩
      obtain ⟨b', off', cp', ev, _, hcell⟩ : ∃ b off cap, (Value.slice a' (points n f).length cap') = .slice (some ⟨b, off, none⟩) (points n f).length cap ∧ (points n f).length ≤ maxLen ∧ ∀ i, i < (points n f).length → w1.cell? ⟨b, off + i, none⟩ = some (.int .i64 ((points n f).getD i 0)) := by
        rcases hi with ⟨e1, _⟩ | h
        · rw [e1] at hlt; exact absurd hlt (by simp)
        · exact h
      injection ev with ea _ ec
      subst ea ec
      have hc1 := hcell j hlt
      have hcj : wr.cell? ⟨b', off' + j, none⟩ = some (.int .i64 (ptF (fun i => f (p + i)) m)) := by
        rw [hb.cell (cell_lt hc1), hc1, hdd.1]
      have hput := put_ok u7 p f (ptF (fun i => f (p + i)) m) wr (hT1.below hb (by omega)) (ptB_pt _ _ _ (fun i => lo (p + i)) hs) hRt (by omega)
      have HN := fun r w2 h1 h2 => BkRel_next n f lo up w1 wr w2 r p k' m j hb hk hs hm m1' hg' hlt hdd.2 h1 h2
      have HB : Hid (ptB (ptF (fun i => f (p + i)) m) = true) := ptB_pt _ _ _ (fun i => lo (p + i)) hs
      unfold PutOk at hput
      generalize ptF (fun i => f (p + i)) m = pt at *
      have hI : (j : Int) < ((points n f).length : Int) := by omega
      clear hdd hd hpt hs hcell hi hc1 hgk hg' hRt hb
      go_wp2_with fail
      refine hput.mono ?_
      rintro e w2 ⟨r2, rfl, ho2, hb2⟩
      have HR := HN r2 w2 ho2 hb2
      have HR : Hid (BkRel n f w1 r2 (.int .i64 ((j : Int) + 1)) w2) := HR
      clear HN ho2 hb2 hput
      go_wp2
      go_roundw
      case rel => exact HR.out
      case measure => simp [intOf]; omega
    · have hpn : p = n := by
        by_cases z : p < n
        · obtain ⟨k', rfl⟩ : ∃ k', k = k' + 1 := ⟨k - 1, by omega⟩
          obtain ⟨m, hs, m1', hm, hg', hpt⟩ := good_step n f k' p z hgk
          rw [hpt, List.drop_eq_nil_of_le (by omega)] at hd
          cases hd
        · omega
      subst hpn
      have hjl : j = (points p f).length := by omega
      have hRn := hR1.below hb
      have hsm := same_refl u7 _ p f wr hRt hRn
      have hcv := conv_row wr _ p f hRn
      have hcn : Calls Tryd.prog 14 #[.string (txt p f)] wr fun e w' => e = .returned (.int .i64 ((points p f).length : Int)) ∧ wr = w' := by
        rw [← HC.out]
        exact (count_any (txt p f) wr (by rw [txt_size]; unfold maxLen; omega)).mono fun e w' h => ⟨h.1, h.2.symm⟩
      have hh := heads_any wr (hT1.below hb (by omega)) (by have := hb.size; omega)
      have hbl : Below w.heap.size w wr := hb1.trans (hb.mono hz1)
      have hzl := hbl.size
      clear hRt hRn hgk hd hi hb hR1 hR
      go_wp2_with (first | (go_at_call 25; refine hsm.mono ?_; rintro e w' ⟨rfl, rfl⟩) | (go_at_call 14; refine hcn.mono ?_; rintro e w' ⟨rfl, rfl⟩) | (go_at_call 18; refine hh.mono ?_; rintro e w9 ⟨rfl, hb9⟩))
      go_ret
      exact ⟨rfl, hbl.trans (hb9.mono hzl)⟩

theorem back_walk (v : Value) (n : Nat) (f : Nat → Int) (w : World) (hT : Tab w) (h0 : 0 < w.heap.size) (hR : Row w v n f) (lo : ∀ i, 0 ≤ f i) (up : ∀ i, f i < 256) (hn : n ≤ 1048576) :
    Calls Tryd.prog 5 #[v] w fun e w' => e = .returned (.bool true) ∧ Below w.heap.size w w' := by
  cases hg : (good n f).2
  · exact back_bad v n f w hT h0 hR hg
  · exact back_ok v n f w hT h0 hR lo up hn hg

theorem back_contract (H : Type) (enc : TypeId × Value → H) (W : World) (base : Nat) (args : Array Value) (ds gs : List (DataW H)) (before : List MemPlace)
    (hval : ∀ (j : Nat) t v, Tryd.f5.params[j]? = some t → args[j]? = some v → Value.okWide Tryd.prog W .any base t v)
    (hW : DataW.Whole enc Tryd.prog Tryd.f5.params.toList Rows.utfBackSpec.vars false W args.toList ds gs before) (hcond : Rows.uptoSmall H (ds ++ gs) = true)
    (hsz : (DataW.weightsEach Tryd.prog (Tryd.f5.params.toList ++ (Rows.OpenSpec.upto Rows.utfBackSpec).bare.plain.varTypes Tryd.prog) (ds ++ gs)).all (· ≤ reachBytes) = true) (hL : laidMetH Tryd.prog Rows.utfPairsRow.laid W) :
    Calls Tryd.prog 5 args W fun e W' => ∃ v, e = .returned v ∧ Rows.utfBackSpec.post enc Tryd.prog Tryd.f5 false true false false W args v W' := by
  have hW' := hW
  obtain ⟨p, q, hA0, hV, rfl, hfz, hnd⟩ := hW
  have hA : DataW.TrodAll enc Tryd.prog W 0 (fun _ => true) true Tryd.f5.params.toList args.toList ds p := hA0
  rw [Tryd.params5] at hA hval hsz
  obtain ⟨v0, vs0, d0, ds0, p0, q0, hargs, rfl, rfl, h0, r0⟩ := trodAll_cons hA
  obtain ⟨rfl, rfl, rfl⟩ := trodAll_nil r0
  obtain rfl : args = #[v0] := by cases args; simp_all
  obtain ⟨rfl, rfl⟩ := trodVars_none hV
  obtain ⟨n0, f0, hR0, lo0, up0, hd0⟩ := open_bytes (hval 0 22 v0 rfl rfl) h0
  have hn0 := reach_bytes hsz (j := 0) rfl rfl hd0
  have lt0 : ∀ x ∈ p0, x.block < W.heap.size := by obtain ⟨m, hm⟩ := h0; exact DataW.trod_lt m _ _ _ hm
  have hu0 := upto_bytes hcond (j := 0) rfl hd0
  clear hA0
  have hT := table hL
  refine (back_walk v0 n0 f0 W hT hT.pos hR0 lo0 up0 hu0).mono fun e W' ⟨he, bel⟩ => ?_
  subst he
  exact ⟨_, rfl, _, _, _, [], _, [], hW', trodAll_mk1 (shut_bool Tryd.underlying4 _), (trodAll_cons_mk (Below.trod laidOut (by kernel_rfl) (of_decide_eq_true (by kernel_rfl)) h0 bel lt0) trodAll_mk0), rfl, bel.frame _, fun h => by cases h⟩

theorem back_laid_met (os : Os) : laidMet Tryd.prog Rows.utfBackUptoRow.laid (({ World.holding Tryd.prog os ⟨#[], #[], []⟩ with heap := (World.holding Tryd.prog os ⟨#[], #[], []⟩).heap.modify 0 fun
      | .cells _ t frozen => .cells #[.int .i64 127, .int .i64 2047, .int .i64 65535, .int .i64 1114111] t frozen
      | o => o } : World).forCall (fun _ _ => 0) ⟨#[], #[.slice none 0 0], []⟩).memory :=
  laidMet_of_run' 8 (by kernel_rfl) (by kernel_rfl)
theorem back_reads (os : Os) {H : Type} (enc : TypeId × Value → H) : ∃ places, DataW.whole enc Tryd.prog (({ World.holding Tryd.prog os ⟨#[], #[], []⟩ with heap := (World.holding Tryd.prog os ⟨#[], #[], []⟩).heap.modify 0 fun
      | .cells _ t frozen => .cells #[.int .i64 127, .int .i64 2047, .int .i64 65535, .int .i64 1114111] t frozen
      | o => o } : World).forCall (fun _ _ => 0) ⟨#[], #[.slice none 0 0], []⟩).memory Tryd.f5.params.toList Rows.utfBackSpec.vars false #[Value.slice none 0 0].toList 8 = some ([.nil], [], places) :=
  ⟨[], by kernel_rfl⟩

set_option maxRecDepth 100000 in
theorem back_lifted (os : Os) (started : os.Started) (H : Type) (enc : TypeId × Value → H) (F : Stop.Interp) :
    ReturnsInHanded {} Tryd.checked os 5 .any ((Rows.OpenSpec.upto Rows.utfBackSpec).preRow enc Tryd.prog Tryd.f5 Rows.utfBackUptoRow.domain false Rows.utfBackUptoRow.laid) (((Rows.OpenSpec.upto Rows.utfBackSpec).at F).post enc Tryd.prog Tryd.f5 false true false false) := by
  obtain ⟨places, hx⟩ := back_reads os enc
  refine returnsInHanded_of_row (C := Tryd.checked) (s := (Rows.OpenSpec.upto Rows.utfBackSpec)) own started (by kernel_rfl) Tryd.func5
    (witness_row_at (enc := enc) (C := Tryd.checked) false _ #[.slice none 0 0] rfl (by kernel_rfl) (by kernel_rfl) (by kernel_rfl)
      (OpenSpec.preRow_of_cond 8 hx (by kernel_rfl) (fun k hk => by cases hk; kernel_rfl) (by kernel_rfl) (back_laid_met os))) ?_
  intro W base args ds gs before hval hW _ hcond hsz hL _ _
  exact back_contract H enc W base args ds gs before hval hW (hcond _ rfl) hsz hL

theorem back_said : Rows.UtfBackUptoSaid :=
  OpenClaim.holds_of_cond 5 Tryd.f5 rfl rfl rfl rfl rfl rfl rfl ⟨rfl, rfl, rfl, rfl, rfl⟩ rfl rfl rfl rfl rfl (by kernel_rfl) Tryd.func5 (by kernel_rfl)
    (of_decide_eq_true (by kernel_rfl)) (by unfold Func.isWrapper; first | (rw [if_pos (by decide +kernel)]; kernel_rfl) | (rw [if_neg (by decide +kernel)]; exact ⟨rfl, rfl⟩))
    (fun os started H enc _ F => by rw [OpenClaim.pre_eq_preRow]; exact back_lifted os started H enc F)

theorem back_plain (f : FuncId) (fn : Func) (hf : Tryd.pinned.checked.prog.funcNamed "caliper/caliperlaw01.UtfBack" = some f) (hfn : Tryd.pinned.checked.prog.funcs[f]? = some fn) :
    false = Tryd.pinned.checked.prog.looks [] ∧ ∀ (j : Nat) t, fn.params[j]? = some t → Tryd.pinned.checked.prog.wantsStandIn t = false := by
  obtain rfl : f = 5 := Option.some.inj ((show Tryd.prog.funcNamed "caliper/caliperlaw01.UtfBack" = some 5 by kernel_rfl).symm.trans hf) |>.symm
  obtain rfl : fn = Tryd.f5 := (Option.some.inj (Tryd.func5.symm.trans hfn)).symm
  refine ⟨by kernel_rfl, fun j t ht => ?_⟩
  rw [Tryd.params5] at ht
  have hm := Array.mem_of_getElem? ht
  simp at hm
  subst hm
  exact (show Tryd.prog.wantsStandIn 22 = false by kernel_rfl)

theorem back_card : Rows.UtfBackUptoCardSaid :=
  Claim7.holds_tied_plain_at .later [] _ _ _ _ back_said (fun _ h => by cases h) (by kernel_rfl) (fun _ h => by cases h) utfBackUpto_row_tie rfl ⟨rfl, rfl⟩ (by kernel_rfl) rfl back_plain (by kernel_rfl)
#print axioms back_card
end Go.Proofs.YtibkhbmglnlgkaaDoor
