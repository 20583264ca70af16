/-
  NfaWrites answers true. Conditions: nothing in the tree is longer than 2^20.
-/
import Derived.Test.YtcgohdfpmfpfiaaXBHz
import Derived.Test.YtcgohdfpmfpfiaaXH2
namespace Go.Proofs.Ytcgohdfpmfpfiaa
open Go.RowKit
attribute [local go_sem] setCell_drewN alloc_drewN

theorem bk_gr {w w' : World} {b : Nat} {cs : Array Value} {o : Option Nat} (h : Bk w b cs) (g : w.grownBy w' o) (ho : o ≠ some b) : Bk w' b cs := by
  have hl := h.lt
  obtain ⟨T, h⟩ := h
  exact ⟨T, by rw [g.block b hl (fun e => ho e.symm)]; exact h⟩
theorem own_ne {w : World} {B : Nat} {e : TypeId} {q : Nat} {v : Value} {n : Nat} {xs : List Value} (h : w.ownsRow B e q v n xs) (b : Nat) (hb : b < B) : v.ownBlock ≠ some b := by
  rcases h.2 with ⟨rfl, _⟩ | ⟨g, c, u, rfl, hg, _⟩
  · intro e; exact absurd e (by simp [Value.ownBlock])
  · intro e
    simp only [Value.ownBlock, Option.some.injEq] at e
    omega
theorem own_form {w : World} {B : Nat} {e : TypeId} {q : Nat} {v : Value} {n : Nat} {xs : List Value} (h : w.ownsRow B e q v (n + 1) xs) : ∃ g c, v = .slice (some ⟨g, 0, none⟩) (n + 1) c := by
  rcases h.2 with ⟨_, h⟩ | ⟨g, c, u, e, _⟩
  · omega
  · exact ⟨g, c, e⟩
theorem wpList_append_rxc {w : World} {ops : Array Oper} {rest : List Oper} {o : Oper} {a : Act} {Q : Exit → Act → World → Prop} (hgd : o.guard = none) (s x : Operand)
    (ho : o.op = .call { callee := .builtin .append, args := #[s, x], argTypes := #[30, 30] }) (B : Nat) (v : Value) (F : List (Nat → Value)) (hs : a.eval s = v) (hown : w.ownsRow B 32 6 v F.length (flatX F)) (hB : B ≤ w.heap.size) (hn : F.length ≤ 100) (f : Nat → Value) (hf : Six f)
    (cs : Array Value) (hc : #[f 0, f 1, f 2, f 3, f 4, f 5] = cs) (t : Nat) (ht : w.heap.size = t) (hx : a.eval x = .slice (some ⟨t, 0, none⟩) 1 1)
    (h : ∀ v' w', w'.ownsRow B 32 6 v' (F.length + 1) (flatX (F ++ [f])) → (w.alloc (.cells cs 32)).grownBy w' v.ownBlock → wpList Try.prog ops Q rest (a.put o.dst v') w') :
    wpList Try.prog ops Q (o :: rest) a (w.alloc (.cells cs 32)) := by
  subst hc
  exact wpList_append_rx hgd s x ho B v F hs hown hB hn f hf t ht hx h

theorem own_bel {w w' : World} {B : Nat} {e : TypeId} {q : Nat} {v : Value} {n : Nat} {xs : List Value} (h : w.ownsRow B e q v n xs) (hb : Below w.heap.size w w') : w'.ownsRow B e q v n xs := by
  refine ⟨h.1, ?_⟩
  rcases h.2 with h' | ⟨g, c, cur, rfl, hb', hg, hrest⟩
  · exact Or.inl h'
  · exact Or.inr ⟨g, c, cur, rfl, hb', (hb.block g (h.lt g rfl).2).trans hg, hrest⟩
theorem xi_one {w : World} {y : RX} {g : Nat → Value} (k lo hi : Int) (z : Bool) (n : Nat) (hw : I64 k ∧ I64 lo ∧ I64 hi) (hy : XI w (fun _ => False) y g) (h : Bk w n #[g 0, g 1, g 2, g 3, g 4, g 5]) :
    XI w (fun _ => False) (.mk k [] lo hi z [y]) (fun i => [Value.int .i64 k, .slice none 0 0, .int .i64 lo, .int .i64 hi, .bool z, .slice (some ⟨n, 0, none⟩) 1 1].getD i .nilIface) := by
  refine XI.mk (some ⟨n, 0, none⟩) 1 (fun _ => g) rfl (RI.nil _ _) rfl rfl rfl rfl ⟨Nat.le_refl _, by unfold maxLen; omega⟩ hw (Or.inr ⟨n, 0, rfl, fun h => h, fun i hi j hj => ?_⟩) (fun i hi => ?_)
  · obtain rfl : i = 0 := by simp at hi; omega
    rw [h.cell]
    match j, hj with
    | 0, _ => rfl
    | 1, _ => rfl
    | 2, _ => rfl
    | 3, _ => rfl
    | 4, _ => rfl
    | 5, _ => rfl
  · obtain rfl : i = 0 := by simp at hi; omega
    exact hy
theorem bd_one {t : RX} {k lo hi : Int} {z : Bool} (h : BdX 1048576 t) : BdX 1048576 (.mk k [] lo hi z [t]) := .mk (Nat.zero_le _) (by simp) (fun c hc => by simp at hc; subst hc; exact h)
theorem bd_many {k lo hi : Int} {z : Bool} (l : List RX) (hl : l.length ≤ 100) (h : ∀ c ∈ l, BdX 1048576 c) : BdX 1048576 (.mk k [] lo hi z l) := .mk (Nat.zero_le _) (by omega) h
/-- Compile of the four. -/
theorem comp_one (Z : List Nat) (t : RX) (hbd : BdX 1048576 t) (f : Nat → Value) (w : World) (n : Nat) (k lo hi : Int) (z : Bool) (hw : I64 k ∧ I64 lo ∧ I64 hi) (hx : XI w (fun _ => False) t f) (hk : Bk w n #[f 0, f 1, f 2, f 3, f 4, f 5]) (hz : ∀ z ∈ Z, z < w.heap.size) (hr : rightB 1000 (.mk k [] lo hi z [t]) = true) :
    Calls Try.prog 10 #[.agg #[.int .i64 k, .slice none 0 0, .int .i64 lo, .int .i64 hi, .bool z, .slice (some ⟨n, 0, none⟩) 1 1], .int .i64 65536] w fun e w' => ∃ ao n c, e = .returned (.tuple #[.slice ao n c, .int .i64 (erV (.mk k [] lo hi z [t]))]) ∧ SI w' (fun b => b ∈ Z) (lrV (.mk k [] lo hi z [t])) (.slice ao n c) ∧ Below w.heap.size w w' :=
by
  have h := comp_genz Z (.mk k [] lo hi z [t]) (bd_one hbd) (fun i => [Value.int .i64 k, .slice none 0 0, .int .i64 lo, .int .i64 hi, .bool z, .slice (some ⟨n, 0, none⟩) 1 1].getD i .nilIface) w (fun _ => False) (xi_one k lo hi z n hw hx hk) hz hr
  have e : xa (fun i => [Value.int .i64 k, .slice none 0 0, .int .i64 lo, .int .i64 hi, .bool z, .slice (some ⟨n, 0, none⟩) 1 1].getD i .nilIface) = .agg #[.int .i64 k, .slice none 0 0, .int .i64 lo, .int .i64 hi, .bool z, .slice (some ⟨n, 0, none⟩) 1 1] := rfl
  rw [e] at h
  exact h
theorem comp_many (Z : List Nat) (l : List RX) (F : List (Nat → Value)) (w : World) (B : Nat) (v : Value) (h2 : 2 ≤ l.length) (h100 : l.length ≤ 100) (hbd : ∀ c ∈ l, BdX 1048576 c) (ho : w.ownsRow B 32 6 v l.length (flatX F)) (hF : F.length = l.length) (hx : ∀ i (h : i < l.length) (h' : i < F.length), XI w (fun _ => False) l[i] F[i]) (hz : ∀ z ∈ Z, z < w.heap.size) (hr : ∀ c ∈ l, rightB 999 c = true) :
    Calls Try.prog 10 #[.agg #[.int .i64 3, .slice none 0 0, .int .i64 0, .int .i64 0, .bool false, v], .int .i64 65536] w fun e w' => ∃ ao n c, e = .returned (.tuple #[.slice ao n c, .int .i64 (erV (.mk 3 [] 0 0 false l))]) ∧ SI w' (fun b => b ∈ Z) (lrV (.mk 3 [] 0 0 false l)) (.slice ao n c) ∧ Below w.heap.size w w' :=
by
  have h := comp_genz Z (.mk 3 [] 0 0 false l) (bd_many l h100 hbd) (fun i => [Value.int .i64 3, .slice none 0 0, .int .i64 0, .int .i64 0, .bool false, v].getD i .nilIface) w (fun _ => False) (xi_row l F v ⟨I64_of (by omega) (by omega), I64_of (by omega) (by omega), I64_of (by omega) (by omega)⟩ ho hF hx) hz (right_seq l 999 h2 hr)
  have e : xa (fun i => [Value.int .i64 3, .slice none 0 0, .int .i64 0, .int .i64 0, .bool false, v].getD i .nilIface) = .agg #[.int .i64 3, .slice none 0 0, .int .i64 0, .int .i64 0, .bool false, v] := rfl
  rw [e] at h
  exact h
theorem rep_xi {w : World} {t : RX} {f : Nat → Value} (m : Nat) (hx : XI w (fun _ => False) t f) : ∀ i (h : i < (List.replicate m t).length) (h' : i < (List.replicate m f).length), XI w (fun _ => False) (List.replicate m t)[i] (List.replicate m f)[i] := fun i h h' => by
  rw [List.getElem_replicate, List.getElem_replicate]; exact hx
theorem rep_xi2 {w : World} {t u : RX} {f g : Nat → Value} (m : Nat) (hx : XI w (fun _ => False) t f) (hy : XI w (fun _ => False) u g) : ∀ i (h : i < (List.replicate m t ++ [u]).length) (h' : i < (List.replicate m f ++ [g]).length), XI w (fun _ => False) (List.replicate m t ++ [u])[i] (List.replicate m f ++ [g])[i] := fun i h h' => by
  by_cases hi : i < m
  · rw [List.getElem_append_left (by simpa using hi), List.getElem_append_left (by simpa using hi), List.getElem_replicate, List.getElem_replicate]; exact hx
  · have e : i = m := by simp at h; omega
    subst e
    simp
    exact hy

set_option maxRecDepth 100000 in
set_option maxHeartbeats 6400000 in
theorem writes_walk (t : RX) (f : Nat → Value) (n : Int) (w : World) (hbd : BdX 1048576 t) (hv : XI w (fun _ => False) t f) :
    Calls Try.prog 5 #[xa f, .int .i64 n] w fun e w' => e = .returned (.bool true) ∧ Below w.heap.size w w' := by
  have hsix := hv.six
  obtain ⟨k, a1, n1, c1, lo, hi_, z, a2, n2, c2, e0, e1, e2, e3, e4, e5⟩ := hv.six
  have exa : xa f = .agg #[.int .i64 k, .slice a1 n1 c1, .int .i64 lo, .int .i64 hi_, .bool z, .slice a2 n2 c2] := by unfold xa; rw [e0, e1, e2, e3, e4, e5]
  obtain ⟨W, hW⟩ : ∃ W, w.alloc (.cells #[.int .i64 k, .slice a1 n1 c1, .int .i64 lo, .int .i64 hi_, .bool z, .slice a2 n2 c2] 32) = W := ⟨_, rfl⟩
  have hbW : Below w.heap.size w W := hW ▸ vb_a (Below.refl _ _) _
  have kX : Bk W w.heap.size #[.int .i64 k, .slice a1 n1 c1, .int .i64 lo, .int .i64 hi_, .bool z, .slice a2 n2 c2] := hW ▸ Bk.new _ _ _
  have hck := refCheck_any t f W _ (hv.kept hbW)
  rw [exa] at hck ⊢
  obtain ⟨P, hP⟩ : ∃ P : Ending → World → Prop, P = fun e w' => e = .returned (.bool true) ∧ Below w.heap.size w w' := ⟨_, rfl⟩
  rw [← hP]
  have HP := hid_intro hP
  have HW := hid_intro hW
  have HBW := hid_intro hbW
  have HK := hid_intro kX
  have HHD := hid_intro (fun w' => heads_any w')
  cases hr : rightB 1000 t
  · rw [hr] at hck
    clear hP hv hsix e0 e1 e2 e3 e4 e5 hW hbW kX exa hbd hr HK
    go_enter Try.func5, Try.ntmps5
    go_wp2_with fail
    rw [HW.out]
    refine hck.mono ?_; rintro e w1 ⟨rfl, hb1⟩
    go_wp2_with fail
    refine (HHD.out _).mono ?_; rintro e w2 ⟨rfl, hb2⟩
    go_wp2_with fail
    rw [HP.out]
    exact ⟨rfl, vb_t (vb_t HBW.out hb1) hb2⟩
  · rw [hr] at hck
    by_cases q1 : n < 2
    · clear hP hv hsix e0 e1 e2 e3 e4 e5 hW hbW kX exa hbd hr HK
      go_enter Try.func5, Try.ntmps5
      go_wp2_with fail
      rw [HW.out]
      refine hck.mono ?_; rintro e w1 ⟨rfl, hb1⟩
      go_wp2_with fail
      refine (HHD.out _).mono ?_; rintro e w2 ⟨rfl, hb2⟩
      go_wp2_with fail
      rw [HP.out]
      exact ⟨rfl, vb_t (vb_t HBW.out hb1) hb2⟩
    · by_cases q2 : n > 12
      · clear hP hv hsix e0 e1 e2 e3 e4 e5 hW hbW kX exa hbd hr HK
        go_enter Try.func5, Try.ntmps5
        go_wp2_with fail
        rw [HW.out]
        refine hck.mono ?_; rintro e w1 ⟨rfl, hb1⟩
        go_wp2_with fail
        refine (HHD.out _).mono ?_; rintro e w2 ⟨rfl, hb2⟩
        go_wp2_with fail
        rw [HP.out]
        exact ⟨rfl, vb_t (vb_t HBW.out hb1) hb2⟩
      · have hlv := fun w' (hb : Below w.heap.size w w') => levels_any t f w' _ (hv.kept hb) (lv_right t 1000 hr)
        rw [exa] at hlv
        have HLV := hid_intro hlv
        by_cases q3 : (lvX t : Int) > 900
        · clear hP hv hsix e0 e1 e2 e3 e4 e5 hW hbW kX exa hbd hr hlv
          go_enter Try.func5, Try.ntmps5
          go_wp2_with fail
          rw [HW.out]
          refine hck.mono ?_; rintro e w1 ⟨rfl, hb1⟩
          obtain ⟨x0, x1, x2, x3, x4, x5⟩ := (HK.out.bel hb1).c6
          have hl1 := HLV.out w1 (vb_t HBW.out hb1)
          have HB1 := hid_intro (vb_t HBW.out hb1)
          clear hb1 hck
          go_wp2_with fail
          refine hl1.mono ?_; rintro e w2 ⟨rfl, hb2⟩
          clear x0 x1 x2 x3 x4 x5
          go_wp2_with fail
          refine (HHD.out _).mono ?_; rintro e w3 ⟨rfl, hb3⟩
          go_wp2_with fail
          rw [HP.out]
          exact ⟨rfl, vb_t (vb_t HB1.out hb2) hb3⟩
        · obtain ⟨m, rfl⟩ : ∃ m : Nat, n = (m : Int) := ⟨n.toNat, by omega⟩
          have hr9 : rightB 998 t = true := right_lv t 1000 998 hr (by omega)
          have hr99 : rightB 999 t = true := right_lv t 1000 999 hr (by omega)
          have HRT := hid_intro (And.intro hr9 (And.intro hr99 (show 2 ≤ m ∧ m ≤ 12 by omega)))
          have HBD := hid_intro hbd
          have HVV := hid_intro (fun w' (hb : Below w.heap.size w w') => hv.kept hb)
          have HSX := hid_intro hsix
          have HEQ := hid_intro (And.intro e0 (And.intro e1 (And.intro e2 (And.intro e3 (And.intro e4 e5)))))
          have hmI : (m : Int) ≤ 12 := by omega
          clear hP hv hsix e0 e1 e2 e3 e4 e5 hW hbW kX exa hbd hr hlv hr9 hr99
          go_enter Try.func5, Try.ntmps5
          go_wp2_with fail
          rw [HW.out]
          refine hck.mono ?_; rintro e w1 ⟨rfl, hb1⟩
          obtain ⟨x0, x1, x2, x3, x4, x5⟩ := (HK.out.bel hb1).c6
          have hl1 := HLV.out w1 (vb_t HBW.out hb1)
          have HB1 := hid_intro hb1
          clear hb1 hck
          go_wp2_with fail
          refine hl1.mono ?_; rintro e w2 ⟨rfl, hb2⟩
          clear x0 x1 x2 x3 x4 x5 hl1
          obtain ⟨V, hV⟩ : ∃ V, w2.alloc (.cells #[.int .i64 3, .slice none 0 0, .int .i64 0, .int .i64 0, .bool false, .slice none 0 0] 32) = V := ⟨_, rfl⟩
          have hbV : Below w2.heap.size w2 V := hV ▸ vb_a (Below.refl _ _) _
          have kV : Bk V w2.heap.size #[.int .i64 3, .slice none 0 0, .int .i64 0, .int .i64 0, .bool false, .slice none 0 0] := hV ▸ Bk.new _ _ _
          have hWV : Below W.heap.size W V := vb_t (vb_t HB1.out hb2) hbV
          have hVs : V.heap.size = w2.heap.size + 1 := by rw [← hV]; simp
          have HV := hid_intro hV
          have HWV := hid_intro hWV
          have HKV := hid_intro kV
          have HVS2 := hid_intro (Nat.le_trans HB1.out.size hb2.size)
          have HVS := hid_intro (And.intro hVs (Nat.le_trans HBW.out.size (Nat.le_trans HB1.out.size hb2.size)))
          clear hV hbV kV hWV hVs hb2
          go_wp2_with fail
          rw [HV.out]
          go_loopg [6] m (fun mm s6 wr => ∃ (i : Nat) (v : Value), i ≤ m ∧ mm = m - i ∧ s6 = .int .i64 (i : Int) ∧ Hid (Bk wr w2.heap.size #[.int .i64 3, .slice none 0 0, .int .i64 0, .int .i64 0, .bool false, v] ∧ wr.ownsRow V.heap.size 32 6 v i (flatX (List.replicate i f)) ∧ Below w2.heap.size V wr))
          case atStart => exact ⟨0, _, Nat.zero_le _, rfl, rfl, HKV.out, World.ownsRow_nil _ _ _ _, Below.refl _ _⟩
          case round =>
            obtain ⟨i, v, hi, rfl, rfl, HI⟩ := hrel
            by_cases hlt : i < m
            · have hJ : (i : Int) < (m : Int) := by omega
              have hbr : Below W.heap.size W wr := HWV.out.trans (HI.out.2.2.mono HVS2.out)
              obtain ⟨x0, x1, x2, x3, x4, x5⟩ := (HK.out.bel hbr).c6
              obtain ⟨y0, y1, y2, y3, y4, y5⟩ := HI.out.1.c6
              have hcs : #[f 0, f 1, f 2, f 3, f 4, f 5] = #[.int .i64 k, .slice a1 n1 c1, .int .i64 lo, .int .i64 hi_, .bool z, .slice a2 n2 c2] := by
                obtain ⟨e0, e1, e2, e3, e4, e5⟩ := HEQ.out
                rw [e0, e1, e2, e3, e4, e5]
              have HCS := hid_intro hcs
              have hO : wr.ownsRow V.heap.size 32 6 v (List.replicate i f).length (flatX (List.replicate i f)) := by rw [List.length_replicate]; exact HI.out.2.1
              have HO := hid_intro hO
              have HSZ := hid_intro (show V.heap.size ≤ wr.heap.size from HI.out.2.2.size)
              have HLN := hid_intro (show (List.replicate i f).length ≤ 100 by rw [List.length_replicate]; omega)
              have HNE := hid_intro (own_ne HO.out w2.heap.size (by have := HVS.out.1; omega))
              clear hbr hcs hO
              go_wp2_with (at_builtin; refine wpList_append_rxc rfl _ _ rfl V.heap.size v (List.replicate i f) rfl HO.out HSZ.out HLN.out f HSX.out _ HCS.out _ rfl rfl ?_; intro v5 w5 ho5 hg5; rw [List.length_replicate] at ho5; obtain ⟨g5, c5, rfl⟩ := own_form ho5; have hk5 := bk_gr (HI.out.1.al _) hg5 HNE.out; obtain ⟨z0, z1, z2, z3, z4, z5⟩ := hk5.c6; obtain ⟨y6, y7, y8, y9, y10, y11⟩ := hk5.z6; have HK5 := hid_intro hk5; have HO5 := hid_intro ho5; have HG5 := hid_intro hg5; clear hk5 ho5 hg5)
              have hrep : flatX (List.replicate i f ++ [f]) = flatX (List.replicate (i + 1) f) := by rw [List.replicate_succ']
              have ho6 : w5.ownsRow V.heap.size 32 6 (.slice (some ⟨g5, 0, none⟩) (i + 1) c5) (i + 1) (flatX (List.replicate (i + 1) f)) := by
                have h := HO5.out
                rw [hrep] at h
                exact h
              have hb5 : Below w2.heap.size V w5 := by
                have hv := HVS.out.1
                have hz := HSZ.out
                refine Below.grown (HI.out.2.2.alloc (by omega) _) HG5.out ?_ ?_
                · simp; omega
                · intro kk ek
                  rcases HO.out.2 with ⟨rfl, _⟩ | ⟨g, c, u, rfl, hg, _⟩
                  · exact absurd ek (by simp [Value.ownBlock])
                  · simp only [Value.ownBlock, Option.some.injEq] at ek; omega
              have HIN := hid_intro (And.intro (Bk.set HK5.out 5 (.slice (some ⟨g5, 0, none⟩) (i + 1) c5) rfl) (And.intro (ownsRow_setCell_below ho6 (a := ⟨w2.heap.size, 5, none⟩) (by show w2.heap.size < _; have := HVS.out.1; omega) (.slice (some ⟨g5, 0, none⟩) (i + 1) c5)) (hb5.setCell (p := ⟨w2.heap.size, 5, none⟩) (Nat.le_refl _) (.slice (some ⟨g5, 0, none⟩) (i + 1) c5))))
              clear ho6 hb5 hrep
              go_wp2_with fail
              go_roundg (m - (i + 1))
              case measure => omega
              case rel => exact ⟨i + 1, _, by omega, rfl, by simp, HIN⟩
            · obtain rfl : i = m := by omega
              have hbr : Below W.heap.size W wr := HWV.out.trans (HI.out.2.2.mono HVS2.out)
              have hm2 : 2 ≤ i ∧ i ≤ 12 := HRT.out.2.2
              obtain ⟨g, c, hvv, hg1, hg2⟩ := HI.out.2.1.form (by omega)
              subst hvv
              have hwr : Below w.heap.size w wr := vb_t HBW.out hbr
              have kx := HK.out.bel hbr
              obtain ⟨A, hA⟩ : ∃ A, wr.alloc (.cells #[.int .i64 k, .slice a1 n1 c1, .int .i64 lo, .int .i64 hi_, .bool z, .slice a2 n2 c2] 32) = A := ⟨_, rfl⟩
              have hbA : Below wr.heap.size wr A := hA ▸ vb_a (Below.refl _ _) _
              have hcs : #[f 0, f 1, f 2, f 3, f 4, f 5] = #[.int .i64 k, .slice a1 n1 c1, .int .i64 lo, .int .i64 hi_, .bool z, .slice a2 n2 c2] := by
                obtain ⟨e0, e1, e2, e3, e4, e5⟩ := HEQ.out
                rw [e0, e1, e2, e3, e4, e5]
              have kA : Bk A wr.heap.size #[f 0, f 1, f 2, f 3, f 4, f 5] := by rw [hcs, ← hA]; exact Bk.new _ _ _
              have hcA := comp_one [w2.heap.size, g] t HBD.out f A wr.heap.size 5 (i : Int) (i : Int) false ⟨I64_of (by omega) (by omega), I64_of (by omega) (by omega), I64_of (by omega) (by omega)⟩ (HVV.out A (vb_t hwr hbA)) kA (fun z hz => by simp at hz; have := hbA.size; have := HI.out.1.lt; rcases hz with rfl | rfl <;> omega) (right_wA t i 999 hm2.2 HRT.out.2.1)
              have HCS := hid_intro hcs
              have HO := hid_intro (own_bel HI.out.2.1 hbA)
              have HKB := hid_intro (HI.out.1.bel hbA)
              have HKX := hid_intro (kx.bel hbA)
              have HBA := hid_intro (vb_t hwr hbA)
              have HVA := hid_intro (show Below w2.heap.size V A from HI.out.2.2.trans (hbA.mono (by have := HI.out.2.2.size; have := HVS.out.1; omega)))
              have HAA := hid_intro hA
              have HM2 := hid_intro hm2
              have HG := hid_intro (And.intro hg1 hg2)
              obtain ⟨x0, x1, x2, x3, x4, x5⟩ := kx.c6
              clear hbr hm2 hg1 hg2 hwr kx hbA hcs kA hA HI HVA
              go_wp2_with fail
              rw [HAA.out]
              refine hcA.mono ?_; rintro e w3 ⟨a3, n3, c3, rfl, si3, hb3⟩
              clear x0 x1 x2 x3 x4 x5 hcA
              have HS3 := hid_intro si3
              have ho3 := own_bel HO.out hb3
              have hcB := comp_many [w2.heap.size, g] (List.replicate i t) (List.replicate i f) w3 V.heap.size _ (by rw [List.length_replicate]; exact HM2.out.1) (by rw [List.length_replicate]; have := HM2.out.2; omega) (fun c hc => by rw [List.mem_replicate] at hc; rw [hc.2]; exact HBD.out) (by rw [List.length_replicate]; exact ho3) (by rw [List.length_replicate, List.length_replicate]) (rep_xi i (HVV.out w3 (vb_t HBA.out hb3))) (fun z hz => by simp at hz; have := (HKB.out.bel hb3).lt; have := (ho3.lt g rfl).2; rcases hz with rfl | rfl <;> omega) (fun c hc => by rw [List.mem_replicate] at hc; rw [hc.2]; exact HRT.out.2.1)
              have HO3 := hid_intro ho3
              have HKB3 := hid_intro (HKB.out.bel hb3)
              have HKX3 := hid_intro (HKX.out.bel hb3)
              have HB3 := hid_intro (vb_t HBA.out hb3)
              obtain ⟨y0, y1, y2, y3, y4, y5⟩ := HKB3.out.c6
              clear si3 ho3 hb3 HO HKB HKX HBA HAA
              go_wp2_with fail
              refine hcB.mono ?_; rintro e w4 ⟨a4, n4, c4, rfl, si4, hb4⟩
              clear y0 y1 y2 y3 y4 y5 hcB
              have HS4 := hid_intro si4
              have HW24 := hid_intro (show w2.heap.size < w4.heap.size from (HKB3.out.bel hb4).lt)
              have HO4 := hid_intro (own_bel HO3.out hb4)
              have HKB4 := hid_intro (HKB3.out.bel hb4)
              have HKX4 := hid_intro (HKX3.out.bel hb4)
              have HB4 := hid_intro (vb_t HB3.out hb4)
              have HS34 := hid_intro (HS3.out.kept hb4)
              obtain ⟨B, hB⟩ : ∃ B, w4.alloc (.cells #[.int .i64 k, .slice a1 n1 c1, .int .i64 lo, .int .i64 hi_, .bool z, .slice a2 n2 c2] 32) = B := ⟨_, rfl⟩
              have hbB : Below w4.heap.size w4 B := hB ▸ vb_a (Below.refl _ _) _
              have hBs : B.heap.size = w4.heap.size + 1 := by rw [← hB]; simp
              have kB : Bk B w4.heap.size #[f 0, f 1, f 2, f 3, f 4, f 5] := by rw [HCS.out, ← hB]; exact Bk.new _ _ _
              have HOB := hid_intro (show B.ownsRow V.heap.size 32 6 (.slice (some ⟨g, 0, none⟩) i c) (List.replicate i f).length (flatX (List.replicate i f)) by rw [List.length_replicate]; exact own_bel HO4.out hbB)
              have HKB5 := hid_intro (HKB4.out.bel hbB)
              have HKX5 := hid_intro (HKX4.out.bel hbB)
              have HBB := hid_intro (vb_t HB4.out hbB)
              have HSB := hid_intro (And.intro (HS34.out.kept hbB) (HS4.out.kept hbB))
              have HKF := hid_intro kB
              have HBS := hid_intro hBs
              have HBE := hid_intro hB
              have HSZ := hid_intro (show V.heap.size ≤ B.heap.size by have := HG.out; have := (HOB.out.lt g rfl).2; omega)
              have HLN := hid_intro (show (List.replicate i f).length ≤ 100 by rw [List.length_replicate]; have := HM2.out; omega)
              have HNE := hid_intro (own_ne HOB.out w2.heap.size (by have := HVS.out.1; omega))
              have HNX := hid_intro (own_ne HOB.out w.heap.size (by have := HVS.out; omega))
              have HNF := hid_intro (show (Value.slice (some ⟨g, 0, none⟩) i c).ownBlock ≠ some w4.heap.size by
                intro e
                simp only [Value.ownBlock, Option.some.injEq] at e
                have := (HO4.out.lt g rfl).2
                omega)
              obtain ⟨x0, x1, x2, x3, x4, x5⟩ := HKX4.out.c6
              obtain ⟨y0, y1, y2, y3, y4, y5⟩ := HKB4.out.c6
              obtain ⟨u0, u1, u2, u3, u4, u5⟩ := (HKB4.out.al (.cells #[.int .i64 k, .slice a1 n1 c1, .int .i64 lo, .int .i64 hi_, .bool z, .slice a2 n2 c2] 32)).c6
              clear si4 hb4 hB hbB hBs kB HO3 HKB3 HKX3 HB3 HS3 HO4 HKB4 HKX4 HB4
              go_wp2_with (first | (rw [HBE.out]; fail) | (at_builtin; rw [HBE.out]; refine wpList_append_rxc rfl _ _ rfl V.heap.size (.slice (some ⟨g, 0, none⟩) i c) (List.replicate i f) rfl HOB.out HSZ.out HLN.out (fun j => [Value.int .i64 5, .slice none 0 0, .int .i64 0, .int .i64 (-1), .bool false, .slice (some ⟨w4.heap.size, 0, none⟩) 1 1].getD j .nilIface) ⟨_, _, _, _, _, _, _, _, _, _, rfl, rfl, rfl, rfl, rfl, rfl⟩ _ rfl _ HBS.out rfl ?_; intro v5 w5 ho5 hg5; rw [List.length_replicate] at ho5; obtain ⟨g5, c5, rfl⟩ := own_form ho5; have hk5 := bk_gr (HKB5.out.al _) hg5 HNE.out; obtain ⟨z0, z1, z2, z3, z4, z5⟩ := hk5.c6; obtain ⟨y6, y7, y8, y9, y10, y11⟩ := hk5.z6; have HK5 := hid_intro hk5; have HO5 := hid_intro ho5; have HG5 := hid_intro hg5; have hx6 := (bk_gr (HKX5.out.al _) hg5 HNX.out).away (a := ⟨w2.heap.size, 5, none⟩) (v := .slice (some ⟨g5, 0, none⟩) (i + 1) c5) (show w.heap.size ≠ w2.heap.size by have := HK.out.lt; have := HVS2.out; omega); obtain ⟨v0, v1, v2, v3, v4, v5⟩ := hx6.c6; have HX6 := hid_intro hx6; clear hx6 hk5 ho5 hg5))
              have hV1 : w2.heap.size < V.heap.size := by have := HVS.out.1; omega
              have ho6 : (w5.setCell ⟨w2.heap.size, 5, none⟩ (.slice (some ⟨g5, 0, none⟩) (i + 1) c5)).ownsRow V.heap.size 32 6 (.slice (some ⟨g5, 0, none⟩) (i + 1) c5) (i + 1) (flatX (List.replicate i f ++ [(fun j => [Value.int .i64 5, .slice none 0 0, .int .i64 0, .int .i64 (-1), .bool false, .slice (some ⟨w4.heap.size, 0, none⟩) 1 1].getD j .nilIface)])) := ownsRow_setCell_below HO5.out (a := ⟨w2.heap.size, 5, none⟩) hV1 _
              have kb6 : Bk (w5.setCell ⟨w2.heap.size, 5, none⟩ (.slice (some ⟨g5, 0, none⟩) (i + 1) c5)) w2.heap.size #[.int .i64 3, .slice none 0 0, .int .i64 0, .int .i64 0, .bool false, .slice (some ⟨g5, 0, none⟩) (i + 1) c5] := Bk.set HK5.out 5 _ rfl
              have kf6 : Bk (w5.setCell ⟨w2.heap.size, 5, none⟩ (.slice (some ⟨g5, 0, none⟩) (i + 1) c5)) w4.heap.size #[f 0, f 1, f 2, f 3, f 4, f 5] := (bk_gr (HKF.out.al _) HG5.out HNF.out).away (show w4.heap.size ≠ w2.heap.size by have := HKB5.out.lt; have := HBS.out; have := HW24.out; omega)
              have hb6 : Below w.heap.size w (w5.setCell ⟨w2.heap.size, 5, none⟩ (.slice (some ⟨g5, 0, none⟩) (i + 1) c5)) := by
                refine (Below.grown (HBB.out.alloc HBB.out.size _) HG5.out (Nat.le_trans HBB.out.size (by simp)) ?_).setCell (p := ⟨w2.heap.size, 5, none⟩) HVS.out.2 _
                intro kk ek
                have ek' : g = kk := by simpa [Value.ownBlock] using ek
                have := HG.out.1
                have := HVS.out
                omega
              have hcar : ∀ b, ¬ b ∈ [w2.heap.size, g] → b < B.heap.size → (w5.setCell ⟨w2.heap.size, 5, none⟩ (.slice (some ⟨g5, 0, none⟩) (i + 1) c5)).heap[b]? = B.heap[b]? := fun b hb hlt => by
                simp at hb
                rw [Below.heap_setCell w5 ⟨w2.heap.size, 5, none⟩ _ b (fun e => hb.1 e), HG5.out.block b (by simp; omega) (fun e => hb.2 (by injection e))]
                exact (vb_a (Below.refl _ B) _).block b hlt
              have hs3 := HSB.out.1.carry (X' := fun _ => False) (fun b hb hlt => ⟨hcar b hb hlt, fun h => h⟩)
              have hs4 := HSB.out.2.carry (X' := fun _ => False) (fun b hb hlt => ⟨hcar b hb hlt, fun h => h⟩)
              obtain ⟨C, hC⟩ : ∃ C, (w5.setCell ⟨w2.heap.size, 5, none⟩ (.slice (some ⟨g5, 0, none⟩) (i + 1) c5)).alloc (.cells #[.int .i64 k, .slice a1 n1 c1, .int .i64 lo, .int .i64 hi_, .bool z, .slice a2 n2 c2] 32) = C := ⟨_, rfl⟩
              have hbC : Below (w5.setCell ⟨w2.heap.size, 5, none⟩ (.slice (some ⟨g5, 0, none⟩) (i + 1) c5)).heap.size (w5.setCell ⟨w2.heap.size, 5, none⟩ (.slice (some ⟨g5, 0, none⟩) (i + 1) c5)) C := hC ▸ vb_a (Below.refl _ _) _
              have esz : (w5.setCell ⟨w2.heap.size, 5, none⟩ (.slice (some ⟨g5, 0, none⟩) (i + 1) c5)).heap.size = w5.heap.size := by simp
              have kC : Bk C w5.heap.size #[f 0, f 1, f 2, f 3, f 4, f 5] := by rw [HCS.out, ← hC]; exact Bk.new' _ _ _ _ esz
              have hcC := comp_one [] t HBD.out f C w5.heap.size 5 (i : Int) (-1) true ⟨I64_of (by omega) (by omega), I64_of (by have := HM2.out; omega) (by have := HM2.out; omega), I64_of (by omega) (by omega)⟩ (HVV.out C (vb_t hb6 hbC)) kC (fun z hz => by simp at hz) (right_wC t i 999 HM2.out.2 HRT.out.2.1)
              have HOC := hid_intro (own_bel ho6 hbC)
              have HKBC := hid_intro (kb6.bel hbC)
              have HKFC := hid_intro (kf6.bel hbC)
              have HBC := hid_intro (vb_t hb6 hbC)
              have HSC := hid_intro (And.intro (hs3.kept hbC) (hs4.kept hbC))
              clear hV1 ho6 kb6 kf6 hb6 hcar hs3 hs4 hbC esz kC z0 z1 z2 z3 z4 z5 y6 y7 y8 y9 y10 y11
              rw [hC]
              clear hC v0 v1 v2 v3 v4 v5
              refine hcC.mono ?_; rintro e w7 ⟨a7, n7, c7, rfl, si7, hb7⟩
              have hlenr : (List.replicate i t ++ [wR t]).length = i + 1 := by simp
              have hcD := comp_many [] (List.replicate i t ++ [wR t]) (List.replicate i f ++ [(fun j => [Value.int .i64 5, .slice none 0 0, .int .i64 0, .int .i64 (-1), .bool false, .slice (some ⟨w4.heap.size, 0, none⟩) 1 1].getD j .nilIface)]) w7 V.heap.size _ (by have := HM2.out; omega) (by have := HM2.out; omega) (fun c hc => by
                rcases List.mem_append.1 hc with hc | hc
                · rw [List.mem_replicate] at hc; rw [hc.2]; exact HBD.out
                · simp at hc; subst hc; exact bd_one HBD.out) (by rw [hlenr]; exact own_bel HOC.out hb7) (by simp) (rep_xi2 i (HVV.out w7 (vb_t HBC.out hb7)) (xi_one 5 0 (-1) false w4.heap.size ⟨I64_of (by omega) (by omega), I64_of (by omega) (by omega), I64_of (by omega) (by omega)⟩ (HVV.out w7 (vb_t HBC.out hb7)) (HKFC.out.bel hb7))) (fun z hz => by simp at hz) (fun c hc => by
                rcases List.mem_append.1 hc with hc | hc
                · rw [List.mem_replicate] at hc; rw [hc.2]; exact HRT.out.2.1
                · simp at hc; subst hc; exact right_wR t 998 HRT.out.1)
              obtain ⟨y0, y1, y2, y3, y4, y5⟩ := (HKBC.out.bel hb7).c6
              have HS7 := hid_intro (And.intro (HSC.out.1.kept hb7) (And.intro (HSC.out.2.kept hb7) si7))
              have HB7 := hid_intro (vb_t HBC.out hb7)
              clear hcC hb7 si7 hlenr
              go_wp2_with fail
              refine hcD.mono ?_; rintro e w8 ⟨a8, n8, c8, rfl, si8, hb8⟩
              have hE1 := ans_AB t i
              have hE2 := ans_CD t i
              have hq1 : Calls Try.prog 14 #[.slice a3 n3 c3, .slice a4 n4 c4] w8 fun e w' => e = .returned (.bool true) ∧ Below w8.heap.size w8 w' := sameS_refl _ _ _ w8 _ _ (HS7.out.1.kept hb8) (by have := HS7.out.2.1.kept hb8; rw [show lrV (RX.mk 5 [] (i : Int) (i : Int) false [t]) = lrV (RX.mk 3 [] 0 0 false (List.replicate i t)) from hE1.2]; exact this)
              have hq2 := fun w' (hb : Below w8.heap.size w8 w') => show Calls Try.prog 14 #[.slice a7 n7 c7, .slice a8 n8 c8] w' fun e w2 => e = .returned (.bool true) ∧ Below w'.heap.size w' w2 from sameS_refl _ _ _ w' _ _ ((HS7.out.2.2.kept hb8).kept hb) (by have := si8.kept hb; rw [show lrV (RX.mk 5 [] (i : Int) (-1) true [t]) = lrV (RX.mk 3 [] 0 0 false (List.replicate i t ++ [wR t])) from hE2.2]; exact this)
              have HE := hid_intro (And.intro hE1.1 hE2.1)
              have HB8 := hid_intro (vb_t HB7.out hb8)
              have HQ2 := hid_intro hq2
              have er1 : erV (RX.mk 5 [] (i : Int) (i : Int) false [t]) = erV (RX.mk 3 [] 0 0 false (List.replicate i t)) := hE1.1
              have er2 : erV (RX.mk 5 [] (i : Int) (-1) true [t]) = erV (RX.mk 3 [] 0 0 false (List.replicate i t ++ [wR t])) := hE2.1
              generalize erV (RX.mk 3 [] 0 0 false (List.replicate i t)) = r1 at er1 ⊢
              generalize erV (RX.mk 3 [] 0 0 false (List.replicate i t ++ [wR t])) = r2 at er2 ⊢
              clear hcD hb8 si8 hq2 hE1 hE2 y0 y1 y2 y3 y4 y5
              rw [er1, er2]
              clear er1 er2
              go_wp2_with fail
              refine hq1.mono ?_; rintro e w9 ⟨rfl, hb9⟩
              have hq3 := HQ2.out w9 hb9
              have HB9 := hid_intro (vb_t HB8.out hb9)
              clear hq1 hb9
              go_wp2_with fail
              refine hq3.mono ?_; rintro e w10 ⟨rfl, hb10⟩
              have HB10 := hid_intro (vb_t HB9.out hb10)
              clear hq3 hb10
              go_wp2_with fail
              refine (HHD.out _).mono ?_; rintro e w11 ⟨rfl, hb11⟩
              go_wp2_with fail
              rw [HP.out]
              exact ⟨rfl, vb_t HB10.out hb11⟩
end Go.Proofs.Ytcgohdfpmfpfiaa
