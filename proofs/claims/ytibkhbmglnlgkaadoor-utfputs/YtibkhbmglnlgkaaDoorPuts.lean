/-
  UtfPuts answers true for every bytes and numbers, and leaves its arguments as they were. Conditions: none but the table of greatest code points as the program's text lays it (the card ties it).
-/
import Derived.Test.YtibkhbmglnlgkaaDoorRow
import Derived.Test.YtibkhbmglnlgkaaDoorSame
namespace Go.Proofs.YtibkhbmglnlgkaaDoor
open Go.ChangeShapes Go.WideShapes Go.ChangeAt Go.RowKit

def pairOk (h l : Int) : Prop := 55296 ≤ h ∧ h ≤ 56319 ∧ 56320 ≤ l ∧ l ≤ 57343
theorem pair_both (h l : Int) : ∃ v e, 0 ≤ e ∧ e ≤ 11 ∧ (∀ w, Tab w → Calls Tryd.prog 21 #[.int .i64 h, .int .i64 l] w fun x w' => x = .returned (.tuple #[.int .i64 v, .int .i64 e]) ∧ w = w') ∧
    (∀ w, Calls Tryd.prog 22 #[.int .i64 h, .int .i64 l] w fun x w' => x = .returned (.tuple #[.int .i64 v, .int .i64 e]) ∧ w = w') := by
  by_cases k : 55296 ≤ h ∧ h ≤ 56319 ∧ 56320 ≤ l ∧ l ≤ 57343
  · exact ⟨_, 0, by omega, by omega, fun w hT => pair_ok h l w hT k.1 k.2.1 k.2.2.1 k.2.2.2, fun w => rpair_ok h l w k.1 k.2.1 k.2.2.1 k.2.2.2⟩
  · exact ⟨0, 11, by omega, by omega, fun w _ => (pair_bad h l w (by omega)).mono fun e w' h => ⟨h.1, h.2.symm⟩, fun w => rpair_bad h l w (by omega)⟩
theorem split_both (p : Int) : ∃ a b e, 0 ≤ e ∧ e ≤ 11 ∧ (∀ w, Tab w → Calls Tryd.prog 23 #[.int .i64 p] w fun x w' => x = .returned (.tuple #[.int .i64 a, .int .i64 b, .int .i64 e]) ∧ w = w') ∧
    (∀ w, Calls Tryd.prog 24 #[.int .i64 p] w fun x w' => x = .returned (.tuple #[.int .i64 a, .int .i64 b, .int .i64 e]) ∧ w = w') := by
  by_cases k : 65536 ≤ p ∧ p ≤ 1114111
  · exact ⟨_, _, 0, by omega, by omega, fun w hT => split_ok p w hT k.1 k.2, fun w => rsplit_ok p w k.1 k.2⟩
  · exact ⟨0, 0, 2, by omega, by omega, fun w hT => split_bad p w hT (by omega), fun w => rsplit_bad p w (by omega)⟩

/-- utf.Put and ref.Put answer alike: the same error, and the same bytes, each in its world. -/
theorem put_both (p : Int) (n : Nat) (f : Nat → Int) (lo : ∀ i, 0 ≤ f i) (hi : ∀ i, f i < 256) (hb : n + 4 ≤ 140737488355328) : ∃ (e : Int) (m : Nat) (g : Nat → Int), 0 ≤ e ∧ e ≤ 11 ∧
    (∀ v w, Tab w → Row w v n f → Calls Tryd.prog 19 #[v, .int .i64 p] w fun x w' => ∃ r, x = .returned (.tuple #[r, .int .i64 e]) ∧ Row w' r m g ∧ Below w.heap.size w w') ∧
    (∀ v w, Row w v n f → Calls Tryd.prog 20 #[v, .int .i64 p] w fun x w' => ∃ r, x = .returned (.tuple #[r, .int .i64 e]) ∧ Row w' r m g ∧ Below w.heap.size w w') := by
  cases hp : ptB p
  · refine ⟨2, 0, f, by omega, by omega, fun v w hT _ => (put_bad v p w hT hp).mono ?_, fun v w _ => (rput_bad v p w hp).mono ?_⟩
    · rintro e w' ⟨rfl, rfl⟩
      exact ⟨_, rfl, .inl ⟨rfl, none, 0, rfl, fun _ => rfl⟩, Below.refl _ _⟩
    · rintro e w' ⟨rfl, rfl⟩
      exact ⟨_, rfl, .inl ⟨rfl, none, 0, rfl, fun _ => rfl⟩, Below.refl _ _⟩
  · obtain ⟨q0, q1, _⟩ := (ptB_iff p).1 hp
    have l1 := catF_lo n f (encF p) lo (encF_lo p q0 q1)
    have l2 := catF_hi n f (encF p) hi (encF_hi p q0 q1)
    refine ⟨0, n + encN p, catF n f (encF p), by omega, by omega, fun v w hT hR => Calls.mono (put_ok v n f p w hT hp hR hb) ?_, fun v w hR => (rput_ok v n f p w hp hR hb).mono ?_⟩
    · rintro e w' ⟨r, rfl, ho, hbl⟩
      exact ⟨_, rfl, Row.of_own l1 l2 ho, hbl⟩
    · rintro e w' ⟨r, rfl, ho, hbl⟩
      exact ⟨_, rfl, Row.of_own l1 l2 ho, hbl⟩

set_option maxHeartbeats 400000 in
theorem puts_walk (v : Value) (n : Nat) (f : Nat → Int) (p q : Int) (w : World) (hT : Tab w) (h0 : 0 < w.heap.size) (hR : Row w v n f) (lo : ∀ i, 0 ≤ f i) (up : ∀ i, f i < 256) (hb : n + 9 ≤ 140737488355328) :
    Calls Tryd.prog 4 #[v, .int .i64 p, .int .i64 q] w fun e w' => e = .returned (.bool true) ∧ Below w.heap.size w w' := by
  obtain ⟨pv, pe, pe0, pe1, hpa, hpb⟩ := pair_both p q
  obtain ⟨sa, sb, se, se0, se1, hsa, hsb⟩ := split_both p
  obtain ⟨ue, m, g, ue0, ue1, hua, hub⟩ := put_both p n f lo up (by omega)
  obtain ⟨a, cap, e0, m0⟩ := hR.shape
  subst e0
  have hmk := make_bytes w (n + 9) (by omega)
  have hok := make_own w (n + 9) (by unfold maxLen; omega)
  rw [show (((n + 9 : Nat)) : Int) = (n : Int) + 9 from by omega] at hmk
  have hA : Row (w.alloc (.cells (madeCells #[.int .u8 0] (n + 9)) 5)) (.slice a n cap) n f := hR.alloc _
  have hbl : Below w.heap.size w (w.alloc (.cells (madeCells #[.int .u8 0] (n + 9)) 5)) := (Below.refl _ _).alloc (Nat.le_refl _) _
  go_enter Tryd.func4, Tryd.ntmps4
  go_wp2_with (at_builtin; refine wpList_append_row rfl (.tmp 25) (.tmp 26) rfl w.heap.size _ _ _ rfl hok _ n f rfl hA ?_ ?_ ?_)
  · omega
  · simp
  · intro vo w1 hown1 hgrow1
    have hb1 : Below w.heap.size w w1 := hbl.grown hgrow1 (by simp) (fun j hj => (hok.lt j hj).1)
    have hz1 := hb1.size
    have ho1 : Row w1 vo n f := Row.of_own lo up (by simpa using hown1)
    have hT1 := hT.below hb1 h0
    have hu := hua vo w1 hT1 ho1
    clear hok hmk hbl hgrow1 hown1 hua hA
    go_wp2_with fail
    refine hu.mono ?_
    rintro e w2 ⟨r1, rfl, hr1, hb2⟩
    have ho2 := ho1.below hb2
    have hb2 : Below w.heap.size w w2 := hb1.trans (hb2.mono hz1)
    have hz2 := hb2.size
    have hu2 := hub _ w2 (hR.below hb2)
    clear hu hub ho1 hb1 hz1 hT1
    go_wp2_with fail
    refine hu2.mono ?_
    rintro e w3 ⟨r2, rfl, hr2, hb3⟩
    have ho3 := ho2.below hb3
    have hr1 := hr1.below hb3
    have hb3 : Below w.heap.size w w3 := hb2.trans (hb3.mono hz2)
    have hz3 := hb3.size
    have hT3 := hT.below hb3 h0
    have hp1 := hpa w3 hT3
    have hp2 := hpb w3
    have hs1 := hsa w3 hT3
    have hs2 := hsb w3
    have hm1 := same_refl r1 r2 m g w3 hr1 hr2
    have hm2 := same_refl vo _ n f w3 ho3 (hR.below hb3)
    have hh := heads_any w3 hT3 (by omega)
    clear hu2 ho2 hb2 hz2 hpa hpb hsa hsb hr1 hr2 ho3 hR
    go_wp2_with fail
    refine hp1.mono ?_
    rintro e w' ⟨rfl, rfl⟩
    go_wp2_with fail
    refine hp2.mono ?_
    rintro e w' ⟨rfl, rfl⟩
    go_wp2_with fail
    refine hs1.mono ?_
    rintro e w' ⟨rfl, rfl⟩
    go_wp2_with fail
    refine hs2.mono ?_
    rintro e w' ⟨rfl, rfl⟩
    clear hp1 hp2 hs1 hs2
    go_wp2_with fail
    refine hm1.mono ?_
    rintro e w' ⟨rfl, rfl⟩
    go_wp2_with fail
    refine hm2.mono ?_
    rintro e w' ⟨rfl, rfl⟩
    clear hm1 hm2
    go_wp2_with fail
    refine hh.mono ?_
    rintro e w4 ⟨rfl, hb4⟩
    go_wp2
    go_ret
    exact ⟨rfl, hb3.trans (hb4.mono hz3)⟩

theorem puts_contract (H : Type) (enc : TypeId × Value → H) (W : World) (base : Nat) (args : Array Value) (ds gs : List (DataW H)) (before : List MemPlace)
    (hval : ∀ (j : Nat) t v, Tryd.f4.params[j]? = some t → args[j]? = some v → Value.okWide Tryd.prog W .any base t v)
    (hW : DataW.Whole enc Tryd.prog Tryd.f4.params.toList Rows.utfPutsSpec.vars false W args.toList ds gs before)
    (hsz : (DataW.weightsEach Tryd.prog (Tryd.f4.params.toList ++ (OpenSpec.ofChange Rows.utfPutsSpec).bare.plain.varTypes Tryd.prog) (ds ++ gs)).all (· ≤ reachBytes) = true) (hL : laidMetH Tryd.prog Rows.utfPairsRow.laid W) :
    Calls Tryd.prog 4 args W fun e W' => ∃ v, e = .returned v ∧ Rows.utfPutsSpec.post enc Tryd.prog Tryd.f4 false true false false W args v W' := by
  have hW' := hW
  obtain ⟨p, q, hA0, hV, rfl, hfz, hnd⟩ := hW
  have hA : DataW.TrodAll enc Tryd.prog W 0 (fun _ => true) true Tryd.f4.params.toList args.toList ds p := hA0
  rw [Tryd.params4] at hA hval hsz
  obtain ⟨v0, vs0, d0, ds0, p0, q0, hargs, rfl, rfl, h0, r0⟩ := trodAll_cons hA
  obtain ⟨v1, vs1, d1, ds1, p1, q1, rfl, rfl, rfl, h1, r1⟩ := trodAll_cons r0
  obtain ⟨v2, vs2, d2, ds2, p2, q2, rfl, rfl, rfl, h2, r2⟩ := trodAll_cons r1
  obtain ⟨rfl, rfl, rfl⟩ := trodAll_nil r2
  obtain rfl : args = #[v0, v1, v2] := by cases args; simp_all
  obtain ⟨rfl, rfl⟩ := trodVars_none hV
  obtain ⟨n0, f0, hR0, lo0, up0, hd0⟩ := open_bytes (hval 0 22 v0 rfl rfl) h0
  have hn0 := reach_bytes hsz (j := 0) rfl rfl hd0
  have lt0 : ∀ x ∈ p0, x.block < W.heap.size := by obtain ⟨m, hm⟩ := h0; exact DataW.trod_lt m _ _ _ hm
  obtain ⟨x1, rfl, rfl, rfl, wx1⟩ := open_int Tryd.underlying3 (hval 1 3 v1 rfl rfl) h1
  obtain ⟨x2, rfl, rfl, rfl, wx2⟩ := open_int Tryd.underlying3 (hval 2 3 v2 rfl rfl) h2
  clear hA0
  have hT := table hL
  refine (puts_walk v0 n0 f0 x1 x2 W hT hT.pos hR0 lo0 up0 (by omega)).mono fun e W' ⟨he, bel⟩ => ?_
  subst he
  exact ⟨_, rfl, _, _, _, [], _, [], hW', trodAll_mk1 (shut_bool Tryd.underlying4 _), (trodAll_cons_mk (Below.trod laidOut (by kernel_rfl) (of_decide_eq_true (by kernel_rfl)) h0 bel lt0) (trodAll_cons_mk (shut_int Tryd.underlying3 wx1) (trodAll_cons_mk (shut_int Tryd.underlying3 wx2) trodAll_mk0))), rfl, bel.frame _, fun h => by cases h⟩

theorem puts_laid_met (os : Os) : laidMet Tryd.prog Rows.utfPutsRow.laid (({ World.holding Tryd.prog os ⟨#[], #[], []⟩ with heap := (World.holding Tryd.prog os ⟨#[], #[], []⟩).heap.modify 0 fun
      | .cells _ t frozen => .cells #[.int .i64 127, .int .i64 2047, .int .i64 65535, .int .i64 1114111] t frozen
      | o => o } : World).forCall (fun _ _ => 0) ⟨#[], #[.slice none 0 0, .int .i64 0, .int .i64 0], []⟩).memory :=
  laidMet_of_run' 8 (by kernel_rfl) (by kernel_rfl)
theorem puts_reads (os : Os) {H : Type} (enc : TypeId × Value → H) : ∃ places, DataW.whole enc Tryd.prog (({ World.holding Tryd.prog os ⟨#[], #[], []⟩ with heap := (World.holding Tryd.prog os ⟨#[], #[], []⟩).heap.modify 0 fun
      | .cells _ t frozen => .cells #[.int .i64 127, .int .i64 2047, .int .i64 65535, .int .i64 1114111] t frozen
      | o => o } : World).forCall (fun _ _ => 0) ⟨#[], #[.slice none 0 0, .int .i64 0, .int .i64 0], []⟩).memory Tryd.f4.params.toList Rows.utfPutsSpec.vars false #[Value.slice none 0 0, Value.int .i64 0, Value.int .i64 0].toList 8 = some ([.nil, .lit (.int .i64 0), .lit (.int .i64 0)], [], places) :=
  ⟨[], by kernel_rfl⟩

set_option maxRecDepth 100000 in
theorem puts_lifted (os : Os) (started : os.Started) (H : Type) (enc : TypeId × Value → H) (F : Stop.Interp) :
    ReturnsInHanded {} Tryd.checked os 4 .any ((OpenSpec.ofChange Rows.utfPutsSpec).preRow enc Tryd.prog Tryd.f4 Rows.utfPutsRow.domain false Rows.utfPutsRow.laid) (((OpenSpec.ofChange Rows.utfPutsSpec).at F).post enc Tryd.prog Tryd.f4 false true false false) := by
  obtain ⟨places, hx⟩ := puts_reads os enc
  refine returnsInHanded_of_row (C := Tryd.checked) (s := (OpenSpec.ofChange Rows.utfPutsSpec)) own started (by kernel_rfl) Tryd.func4
    (witness_row_at (enc := enc) (C := Tryd.checked) false _ #[.slice none 0 0, .int .i64 0, .int .i64 0] rfl (by kernel_rfl) (by kernel_rfl) (by kernel_rfl)
      (OpenSpec.preRow_of_cond 8 hx (by kernel_rfl) (fun k hk => by cases hk) (by kernel_rfl) (puts_laid_met os))) ?_
  intro W base args ds gs before hval hW _ _ hsz hL _ _
  exact puts_contract H enc W base args ds gs before hval hW hsz hL

theorem puts_said : Rows.UtfPutsSaid :=
  OpenClaim.holds_of_cond 4 Tryd.f4 rfl rfl rfl rfl rfl rfl rfl ⟨rfl, rfl, rfl, rfl, rfl⟩ rfl rfl rfl rfl rfl (by kernel_rfl) Tryd.func4 (by kernel_rfl)
    (of_decide_eq_true (by kernel_rfl)) (by unfold Func.isWrapper; first | (rw [if_pos (by decide +kernel)]; kernel_rfl) | (rw [if_neg (by decide +kernel)]; exact ⟨rfl, rfl⟩))
    (fun os started H enc _ F => by rw [OpenClaim.pre_eq_preRow]; exact puts_lifted os started H enc F)

theorem puts_plain (f : FuncId) (fn : Func) (hf : Tryd.pinned.checked.prog.funcNamed "caliper/caliperlaw01.UtfPuts" = some f) (hfn : Tryd.pinned.checked.prog.funcs[f]? = some fn) :
    false = Tryd.pinned.checked.prog.looks [] ∧ ∀ (j : Nat) t, fn.params[j]? = some t → Tryd.pinned.checked.prog.wantsStandIn t = false := by
  obtain rfl : f = 4 := Option.some.inj ((show Tryd.prog.funcNamed "caliper/caliperlaw01.UtfPuts" = some 4 by kernel_rfl).symm.trans hf) |>.symm
  obtain rfl : fn = Tryd.f4 := (Option.some.inj (Tryd.func4.symm.trans hfn)).symm
  refine ⟨by kernel_rfl, fun j t ht => ?_⟩
  rw [Tryd.params4] at ht
  have hm := Array.mem_of_getElem? ht
  simp at hm
  rcases hm with rfl | rfl
  · exact (show Tryd.prog.wantsStandIn 22 = false by kernel_rfl)
  · exact (show Tryd.prog.wantsStandIn 3 = false by kernel_rfl)

theorem puts_card : Rows.UtfPutsCardSaid :=
  Claim7.holds_tied_plain_at .later [] _ _ _ _ puts_said (fun _ h => by cases h) (by kernel_rfl) (fun _ h => by cases h) utfPuts_row_tie rfl ⟨rfl, rfl⟩ (by kernel_rfl) rfl puts_plain (by kernel_rfl)
#print axioms puts_card
end Go.Proofs.YtibkhbmglnlgkaaDoor
