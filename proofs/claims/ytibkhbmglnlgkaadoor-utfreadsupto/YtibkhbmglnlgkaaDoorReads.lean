/-
  UtfReads answers true for every bytes and text, and leaves them as they were. Conditions: the bytes and the text, with the table, are together of bulk at most 1048576 (the second form); the table of greatest code points as the program's text lays it (the card ties it).
-/
import Derived.Test.YtibkhbmglnlgkaaDoorRow
import Derived.Test.YtibkhbmglnlgkaaDoorC4
import Derived.Test.YtibkhbmglnlgkaaDoorSame
import Derived.Deep.RegionHeld3
import Derived.Deep.DrawnRows
namespace Go.Proofs.YtibkhbmglnlgkaaDoor
open Go.ChangeShapes Go.WideShapes Go.ChangeAt Go.RowKit
open Go.ChangeMaps (open_string shut_string)

attribute [local go_sem ↓] Go.wp_at_zero Go.wp_at_succ

def errB (b : Bool) : Int := if b = true then 0 else 10
def ptsOf (n : Nat) (f : Nat → Int) : List Int := if (good n f).2 = true then points n f else []

theorem points_both (v : Value) (n : Nat) (f : Nat → Int) (w : World) (hT : Tab w) (hR : Row w v n f) (lo : ∀ i, 0 ≤ f i) (up : ∀ i, f i < 256) (hn : n ≤ 1048576) :
    Calls Tryd.prog 11 #[v] w fun e w' => ∃ r, e = .returned (.tuple #[r, .int .i64 (errB (good n f).2)]) ∧ IRow w' r (ptsOf n f) ∧ Below w.heap.size w w' := by
  unfold ptsOf
  cases hg : (good n f).2
  · refine (points_none v n f w hT hR hg).mono ?_
    rintro e w' ⟨rfl, q, rfl⟩
    exact ⟨_, rfl, .inl ⟨rfl, none, 0, rfl⟩, below_drewN (Below.refl _ _) q⟩
  · refine (points_some v n f w hT hR lo up (by omega) hg).mono ?_
    rintro e w' ⟨r, rfl, ho, hb⟩
    exact ⟨_, rfl, by rw [if_pos rfl]; exact IRow.of_own ho, hb⟩
theorem rpoints_both (v : Value) (n : Nat) (f : Nat → Int) (w : World) (hR : Row w v n f) (hn : n ≤ 1048576) :
    Calls Tryd.prog 12 #[v] w fun e w' => ∃ r, e = .returned (.tuple #[r, .int .i64 (errB (good n f).2)]) ∧ IRow w' r (ptsOf n f) ∧ Below w.heap.size w w' := by
  unfold ptsOf
  cases hg : (good n f).2
  · refine (rpoints_none v n f w hR hg).mono ?_
    rintro e w' ⟨rfl, rfl⟩
    exact ⟨_, rfl, .inl ⟨rfl, none, 0, rfl⟩, Below.refl _ _⟩
  · have hR' := hR
    rcases hR with ⟨rfl, a, cap, rfl, _⟩ | ⟨b, off, cap, rfl, hc, hm, hL⟩
    · refine (rpoints_empty a cap f w hR').mono ?_
      rintro e w' ⟨rfl, rfl⟩
      exact ⟨_, rfl, .inl ⟨rfl, none, 0, rfl⟩, Below.refl _ _⟩
    · refine (rpoints_some b off n cap f w hL hc hm (by omega) hg).mono ?_
      rintro e w' ⟨r, rfl, ho, hb⟩
      exact ⟨_, rfl, by rw [if_pos rfl]; exact IRow.of_own ho, hb⟩

theorem IRow.drewN {w : World} {v : Value} {xs : List Int} (h : IRow w v xs) (q : Nat) : IRow (w.drewN q) v xs := h

set_option maxRecDepth 100000 in
set_option maxHeartbeats 4000000 in
theorem reads_walk (v : Value) (s : ByteArray) (n : Nat) (f : Nat → Int) (w : World) (hT : Tab w) (h0 : 0 < w.heap.size) (hR : Row w v n f) (lo : ∀ i, 0 ≤ f i) (up : ∀ i, f i < 256) (hn : n ≤ 1048576) (hs : s.size ≤ 1048576) :
    Calls Tryd.prog 3 #[v, .string s] w fun e w' => e = .returned (.bool true) ∧ Below w.heap.size w w' := by
  have g1 := good_any v n f w hT hR
  have g2 := fun q => rgood_any v n f (w.drewN q) (hR.drewN q)
  have p1 := fun q => points_both v n f (w.drewN q) (hT.drewN q) (hR.drewN q) lo up hn
  have p2 := fun (w1 : World) (hb : Below w.heap.size w w1) => rpoints_both v n f w1 (hR.below hb) hn
  obtain ⟨x, hx⟩ : ∃ x : Int, x = errB (good n f).2 := ⟨_, rfl⟩
  simp only [← hx] at p1 p2
  have hx0 : 0 ≤ x ∧ x ≤ 10 := by
    cases z : (good n f).2
    · rw [z] at hx; rw [hx]; simp [errB]
    · rw [z] at hx; rw [hx]; simp [errB]
  generalize (good n f).1 = a at *
  generalize hgb : (good n f).2 = b at *
  generalize ptsOf n f = xs at *
  clear hx hgb
  go_enter Tryd.func3, Tryd.ntmps3
  go_wp2_with fail
  refine g1.mono ?_
  rintro e w' ⟨rfl, q, rfl⟩
  go_wp2_with fail
  refine (g2 q).mono ?_
  rintro e w' ⟨rfl, rfl⟩
  go_wp2_with fail
  refine (p1 q).mono ?_
  rintro e w2 ⟨r1, rfl, i1, hb2⟩
  have hb2 : Below w.heap.size w w2 := (below_drewN (Below.refl _ _) q).trans (hb2.mono (by simp))
  have p3 := p2 w2 hb2
  have hz2 := hb2.size
  clear g1 g2 p1 p2
  go_wp2_with fail
  refine p3.mono ?_
  rintro e w4 ⟨r2, rfl, i2, hb4⟩
  have i1 := i1.below hb4
  have hb4 : Below w.heap.size w w4 := hb2.trans (hb4.mono hz2)
  have hz4 := hb4.size
  have hT4 := hT.below hb4 h0
  have hR4 := hR.below hb4
  have hI : Calls Tryd.prog 13 #[r1, r2] w4.drew fun e w' => e = .returned (.bool true) ∧ ∃ n, w' = w4.drewN (1 + n) := by
    have := ints_any r1 r2 xs xs _ (i1.drewN 1) (i2.drewN 1)
    refine Calls.mono this ?_
    rintro e w' ⟨h1, q, rfl⟩
    exact ⟨by simpa using h1, q, by rw [World.drewN_drewN]⟩
  have hc14 : ∀ wx, Calls Tryd.prog 14 #[.string s] wx fun e w' => e = .returned (.int .i64 (countS s.data.toList)) ∧ wx = w' := fun wx => (count_any s wx (by unfold maxLen; omega)).mono fun e w' h => ⟨h.1, h.2.symm⟩
  have hc15 : ∀ wx, Calls Tryd.prog 15 #[.string s] wx fun e w' => e = .returned (.int .i64 (countS s.data.toList)) ∧ wx = w' := fun wx => rcount_any s wx (by unfold maxLen; omega)
  have hcv : ∀ q, (convert 22 9 v).run Tryd.prog (w4.drewN q) = .ok (.string (txt n f)) (w4.drewN q) := fun q => conv_row _ _ _ _ (hR4.drewN q)
  have hcv1 : (convert 22 9 v).run Tryd.prog w4.drew = .ok (.string (txt n f)) w4.drew := conv_row _ _ _ _ (hR4.drewN 1)
  have h16 := fun wx => cmp16 (txt n f) s wx
  have h17 := fun wx => cmp17 (txt n f) s wx
  have hh : ∀ q, Calls Tryd.prog 18 #[] (w4.drewN q) fun e w' => e = .returned (.bool true) ∧ Below w4.heap.size w4 w' := by
    intro q
    refine (heads_any _ (hT4.drewN q) (by simp; omega)).mono ?_
    rintro e w' ⟨h1, h2⟩
    exact ⟨h1, (below_drewN (Below.refl _ _) q).trans h2⟩
  generalize countS s.data.toList = cn at *
  generalize Lib.compareBytes (txt n f).data.toList s.data.toList = cm at *
  clear hb2 hz2 p3 i1 i2 hT4 hR hT
  go_wp2_with fail
  go_region_held3 (fun w' => (convert 22 9 v).run Tryd.prog w' = .ok (.string (txt n f)) w') (first | exact hcv _ | exact hcv1 | exact conv_row _ _ _ _ (hR4.below hb9)) (first | (go_at_call 13; refine hI.mono ?_; rintro e w' ⟨rfl, q2, rfl⟩) | (go_at_call 14; refine (hc14 _).mono ?_; rintro e w' ⟨rfl, rfl⟩) | (go_at_call 15; refine (hc15 _).mono ?_; rintro e w' ⟨rfl, rfl⟩) | (go_at_call 16; refine (h16 _).mono ?_; rintro e w' ⟨rfl, rfl⟩) | (go_at_call 17; refine (h17 _).mono ?_; rintro e w' ⟨rfl, rfl⟩) | (go_at_call 18; refine (hh _).mono ?_; rintro e w' ⟨rfl, hb9⟩))
  go_wp2
  go_ret
  exact ⟨rfl, hb4.trans (hb9.mono hz4)⟩

theorem reads_contract (H : Type) (enc : TypeId × Value → H) (W : World) (base : Nat) (args : Array Value) (ds gs : List (DataW H)) (before : List MemPlace)
    (hval : ∀ (j : Nat) t v, Tryd.f3.params[j]? = some t → args[j]? = some v → Value.okWide Tryd.prog W .any base t v)
    (hW : DataW.Whole enc Tryd.prog Tryd.f3.params.toList Rows.utfReadsSpec.vars false W args.toList ds gs before) (hcond : Rows.uptoSmall H (ds ++ gs) = true)
    (hsz : (DataW.weightsEach Tryd.prog (Tryd.f3.params.toList ++ (Rows.OpenSpec.upto Rows.utfReadsSpec).bare.plain.varTypes Tryd.prog) (ds ++ gs)).all (· ≤ reachBytes) = true) (hL : laidMetH Tryd.prog Rows.utfPairsRow.laid W) :
    Calls Tryd.prog 3 args W fun e W' => ∃ v, e = .returned v ∧ Rows.utfReadsSpec.post enc Tryd.prog Tryd.f3 false true false false W args v W' := by
  have hW' := hW
  obtain ⟨p, q, hA0, hV, rfl, hfz, hnd⟩ := hW
  have hA : DataW.TrodAll enc Tryd.prog W 0 (fun _ => true) true Tryd.f3.params.toList args.toList ds p := hA0
  rw [Tryd.params3] at hA hval hsz
  obtain ⟨v0, vs0, d0, ds0, p0, q0, hargs, rfl, rfl, h0, r0⟩ := trodAll_cons hA
  obtain ⟨v1, vs1, d1, ds1, p1, q1, rfl, rfl, rfl, h1, r1⟩ := trodAll_cons r0
  obtain ⟨rfl, rfl, rfl⟩ := trodAll_nil r1
  obtain rfl : args = #[v0, v1] := by cases args; simp_all
  obtain ⟨rfl, rfl⟩ := trodVars_none hV
  obtain ⟨n0, f0, hR0, lo0, up0, hd0⟩ := open_bytes (hval 0 22 v0 rfl rfl) h0
  have hn0 := reach_bytes hsz (j := 0) rfl rfl hd0
  have lt0 : ∀ x ∈ p0, x.block < W.heap.size := by obtain ⟨m, hm⟩ := h0; exact DataW.trod_lt m _ _ _ hm
  have hu0 := upto_bytes hcond (j := 0) rfl hd0
  obtain ⟨s1, rfl, rfl, rfl, hs1⟩ := open_string Tryd.underlying9 (hval 1 9 v1 rfl rfl) h1
  have hu1 := upto_text hcond (j := 1) rfl
  clear hA0
  have hT := table hL
  refine (reads_walk v0 s1 n0 f0 W hT hT.pos hR0 lo0 up0 hu0 (by have e : s1.data.toList.length = s1.size := rfl; omega)).mono fun e W' ⟨he, bel⟩ => ?_
  subst he
  exact ⟨_, rfl, _, _, _, [], _, [], hW', trodAll_mk1 (shut_bool Tryd.underlying4 _), (trodAll_cons_mk (Below.trod laidOut (by kernel_rfl) (of_decide_eq_true (by kernel_rfl)) h0 bel lt0) (trodAll_cons_mk (shut_string Tryd.underlying9 hs1) trodAll_mk0)), rfl, bel.frame _, fun h => by cases h⟩

theorem reads_laid_met (os : Os) : laidMet Tryd.prog Rows.utfReadsUptoRow.laid (({ World.holding Tryd.prog os ⟨#[], #[], []⟩ with heap := (World.holding Tryd.prog os ⟨#[], #[], []⟩).heap.modify 0 fun
      | .cells _ t frozen => .cells #[.int .i64 127, .int .i64 2047, .int .i64 65535, .int .i64 1114111] t frozen
      | o => o } : World).forCall (fun _ _ => 0) ⟨#[], #[.slice none 0 0, .string ByteArray.empty], []⟩).memory :=
  laidMet_of_run' 8 (by kernel_rfl) (by kernel_rfl)
theorem reads_reads (os : Os) {H : Type} (enc : TypeId × Value → H) : ∃ places, DataW.whole enc Tryd.prog (({ World.holding Tryd.prog os ⟨#[], #[], []⟩ with heap := (World.holding Tryd.prog os ⟨#[], #[], []⟩).heap.modify 0 fun
      | .cells _ t frozen => .cells #[.int .i64 127, .int .i64 2047, .int .i64 65535, .int .i64 1114111] t frozen
      | o => o } : World).forCall (fun _ _ => 0) ⟨#[], #[.slice none 0 0, .string ByteArray.empty], []⟩).memory Tryd.f3.params.toList Rows.utfReadsSpec.vars false #[Value.slice none 0 0, Value.string ByteArray.empty].toList 8 = some ([.nil, .lit (.string [])], [], places) :=
  ⟨[], by kernel_rfl⟩

set_option maxRecDepth 100000 in
theorem reads_lifted (os : Os) (started : os.Started) (H : Type) (enc : TypeId × Value → H) (F : Stop.Interp) :
    ReturnsInHanded {} Tryd.checked os 3 .any ((Rows.OpenSpec.upto Rows.utfReadsSpec).preRow enc Tryd.prog Tryd.f3 Rows.utfReadsUptoRow.domain false Rows.utfReadsUptoRow.laid) (((Rows.OpenSpec.upto Rows.utfReadsSpec).at F).post enc Tryd.prog Tryd.f3 false true false false) := by
  obtain ⟨places, hx⟩ := reads_reads os enc
  refine returnsInHanded_of_row (C := Tryd.checked) (s := (Rows.OpenSpec.upto Rows.utfReadsSpec)) own started (by kernel_rfl) Tryd.func3
    (witness_row_at (enc := enc) (C := Tryd.checked) false _ #[.slice none 0 0, .string ByteArray.empty] rfl (by kernel_rfl) (by kernel_rfl) (by kernel_rfl)
      (OpenSpec.preRow_of_cond 8 hx (by kernel_rfl) (fun k hk => by cases hk; kernel_rfl) (by kernel_rfl) (reads_laid_met os))) ?_
  intro W base args ds gs before hval hW _ hcond hsz hL _ _
  exact reads_contract H enc W base args ds gs before hval hW (hcond _ rfl) hsz hL

theorem reads_said : Rows.UtfReadsUptoSaid :=
  OpenClaim.holds_of_cond 3 Tryd.f3 rfl rfl rfl rfl rfl rfl rfl ⟨rfl, rfl, rfl, rfl, rfl⟩ rfl rfl rfl rfl rfl (by kernel_rfl) Tryd.func3 (by kernel_rfl)
    (of_decide_eq_true (by kernel_rfl)) (by unfold Func.isWrapper; first | (rw [if_pos (by decide +kernel)]; kernel_rfl) | (rw [if_neg (by decide +kernel)]; exact ⟨rfl, rfl⟩))
    (fun os started H enc _ F => by rw [OpenClaim.pre_eq_preRow]; exact reads_lifted os started H enc F)

theorem reads_plain (f : FuncId) (fn : Func) (hf : Tryd.pinned.checked.prog.funcNamed "caliper/caliperlaw01.UtfReads" = some f) (hfn : Tryd.pinned.checked.prog.funcs[f]? = some fn) :
    false = Tryd.pinned.checked.prog.looks [] ∧ ∀ (j : Nat) t, fn.params[j]? = some t → Tryd.pinned.checked.prog.wantsStandIn t = false := by
  obtain rfl : f = 3 := Option.some.inj ((show Tryd.prog.funcNamed "caliper/caliperlaw01.UtfReads" = some 3 by kernel_rfl).symm.trans hf) |>.symm
  obtain rfl : fn = Tryd.f3 := (Option.some.inj (Tryd.func3.symm.trans hfn)).symm
  refine ⟨by kernel_rfl, fun j t ht => ?_⟩
  rw [Tryd.params3] at ht
  have hm := Array.mem_of_getElem? ht
  simp at hm
  rcases hm with rfl | rfl
  · exact (show Tryd.prog.wantsStandIn 22 = false by kernel_rfl)
  · exact (show Tryd.prog.wantsStandIn 9 = false by kernel_rfl)

theorem reads_card : Rows.UtfReadsUptoCardSaid :=
  Claim7.holds_tied_plain_at .later [] _ _ _ _ reads_said (fun _ h => by cases h) (by kernel_rfl) (fun _ h => by cases h) utfReadsUpto_row_tie rfl ⟨rfl, rfl⟩ (by kernel_rfl) rfl reads_plain (by kernel_rfl)
#print axioms reads_card
end Go.Proofs.YtibkhbmglnlgkaaDoor
