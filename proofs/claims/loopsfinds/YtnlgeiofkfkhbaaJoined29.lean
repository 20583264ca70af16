/-
  netOf: the net whole. Conditions: n at most 2^20, at most 2^20 edges.
-/
import Derived.Test.YtnlgeiofkfkhbaaJoined23
import Derived.Test.YtnlgeiofkfkhbaaJoined28
namespace Go.Proofs.Ytnlgeiofkfkhbaa
open Go.RowKit Go.Maps Lg
attribute [local go_sem] setCell_drewN alloc_drewN

theorem rowOf_len (es : List (Nat × Nat)) (v : Nat) : (rowOf es v).length ≤ es.length := by
 unfold rowOf
 rw [List.length_map]
 exact List.length_filter_le _ _
theorem results_cell1 {fn : Func} {p : Tmp} {ty : TypeId} (h : fn.results = #[.cell p ty]) (tmps : Array Value) (P : Program) (w : World) :
  (results fn tmps).run P w = ((asAddr (tmps.getD p undef)).run P w).andThen fun a w₁ => (loadVar ty a).run P w₁ := by
 simp only [results, h]
 simp [Sem.run_bind, Result.andThen]
/-- What netOf answers. -/
structure NtR (n : Int) (E : List Ed) (B : Nat) (nums : List Nat) (nv : Value) (g : Nat) (w' : World) : Prop where
 nv : II w' (fun b => b < B) (il nums) nv
 mx : MX w' (fun _ => False) g nums.length (rowOf (pl nums (prs n E)))
 net : Net (prs n E) nums
 ri : Rise nums
 lt : ∀ x ∈ nums, x < n.toNat
def NtP (n : Int) (E : List Ed) (w : World) (r : Ending) (w' : World) : Prop := Below w.heap.size w w' ∧ ∃ nums nv g, r = .returned (.agg #[nv, .slice (some ⟨g, 0, none⟩) nums.length nums.length]) ∧ NtR n E w.heap.size nums nv g w'
/-- Where its loop stands. -/
structure NtI (n : Int) (E : List Ed) (i : Nat) (nums : List Nat) (g : Nat) (W3 wr : World) : Prop where
 bt : But (fun b => b = g ∨ g + 1 ≤ b) W3 wr
 om : OM wr (g + 1) g nums.length (rowOf (pl nums (prs n (E.take i))))

set_option maxRecDepth 100000 in
set_option maxHeartbeats 3200000 in
theorem netOf_any (n : Int) (hn : n ≤ 1048576) (hn2 : I64 n) (E : List Ed) (hEl : E.length ≤ 1048576) (v : Value) (w : World) (hE : EdI w v E) : Calls Try.prog 19 #[.int .i64 n, v] w (NtP n E w) := by
 obtain ⟨Q0, hQ0⟩ : ∃ P' : Ending → World → Prop, P' = NtP n E w := ⟨_, rfl⟩
 rw [← hQ0]
 have HQ := hid_intro hQ0
 obtain ⟨W0, hW0⟩ : ∃ W0, w.alloc (.cells #[.slice none 0 0, .slice none 0 0] 36) = W0 := ⟨_, rfl⟩
 have hb0 : Below w.heap.size w W0 := hW0 ▸ vb_a (Below.refl _ _) _
 have hs0 : W0.heap.size = w.heap.size + 1 := by rw [← hW0]; simp
 have k0 : Bk W0 w.heap.size #[.slice none 0 0, .slice none 0 0] := by rw [← hW0]; exact Bk.new _ _ _
 have HNA := hid_intro (named_any n (by omega) hn2 E hEl v W0 (hE.below hb0))
 have HK0 := hid_intro (And.intro hb0 (And.intro hs0 k0))
 have HE := hid_intro hE
 have HNN := hid_intro (And.intro hn (And.intro hn2 hEl))
 obtain ⟨eo, ec, rfl, -⟩ := hE
 clear hQ0 hb0 hs0 k0 hn hn2 hEl
 go_enter Try.func19, Try.ntmps19
 go_wp2_with fail
 refine HNA.out.mono ?_
 rintro r w1 ⟨hb1, nums, nv, rfl, hii, hnet, hri, hlt⟩
 have hlen : nums.length ≤ 1048576 := by
  have := nodup_len n.toNat nums (rise_nodup hri) hlt
  have := HNN.out.1
  omega
 obtain ⟨no, nc, rfl, -⟩ := id hii
 rw [il_len] at hii ⊢
 have HNU := hid_intro (And.intro hii (And.intro hnet (And.intro hri (And.intro hlt hlen))))
 have HB1 := hid_intro hb1
 have hlI : (nums.length : Int) ≤ 1048576 := by omega
 clear hb1 hii hnet hri hlt HNA hW0
 go_wp2_with (at_make; refine wpList_make_r rfl _ _ rfl nums.length rfl rfl (by have := HNU.out; omega) ?_)
 obtain ⟨W3, hW3⟩ : ∃ W3, (w1.alloc (.cells #[.slice no nums.length nc, .slice (some ⟨w1.heap.size + 1, 0, none⟩) nums.length nums.length] 36)).alloc (.cells (nils nums.length).toArray 23) = W3 := ⟨_, rfl⟩
 rw [hW3]
 have hsz : (w1.alloc (.cells #[.slice no nums.length nc, .slice (some ⟨w1.heap.size + 1, 0, none⟩) nums.length nums.length] 36)).heap.size = w1.heap.size + 1 := by simp
 have hom := OM.made (w1.alloc (.cells #[.slice no nums.length nc, .slice (some ⟨w1.heap.size + 1, 0, none⟩) nums.length nums.length] 36)) nums.length
 rw [hsz, hW3] at hom
 have kwb : Bk W3 w1.heap.size #[.slice no nums.length nc, .slice (some ⟨w1.heap.size + 1, 0, none⟩) nums.length nums.length] := by rw [← hW3]; exact (Bk.new _ _ _).al _
 have hb3 : Below w1.heap.size w1 W3 := by rw [← hW3]; exact vb_a (vb_a (Below.refl _ _) _) _
 have hbw : Below w.heap.size w W3 := HK0.out.1.trans ((HB1.out.trans (hb3.mono HB1.out.size)).mono HK0.out.1.size)
 have hs3 : W3.heap.size = w1.heap.size + 2 := by rw [← hW3]; simp
 have hw1 : w.heap.size + 1 ≤ w1.heap.size := HK0.out.2.1 ▸ HB1.out.size
 have hiiX : ∀ wr, But (fun b => b = w1.heap.size + 1 ∨ w1.heap.size + 1 + 1 ≤ b) W3 wr → II wr (fun b => b = w1.heap.size + 1 ∨ w1.heap.size + 1 + 1 ≤ b) (il nums) (.slice no nums.length nc) := fun wr hb => HNU.out.1.carry (fun b _ hl => ⟨(hb.block b (by omega) (by omega)).trans (hb3.block b hl), by omega⟩)
 have hrow0 : (fun _ => []) = rowOf (pl nums (prs n (E.take 0))) := by
  funext x
  rw [List.take_zero]; rfl
 have HEA := hid_intro (each_any n E HNN.out.2.2 (.slice eo E.length ec) 32 [pt w1.heap.size] ent_net1 (fun i wr => NtI n E i nums (w1.heap.size + 1) W3 wr)
  (fun i w' w2 h hb => ⟨h.bt.below hb, h.om.bel hb⟩)
  (fun i w' h => HE.out.below (hbw.trans (h.bt.toBelow (fun b hb => by omega) hbw.size)))
  (fun i hi w' hc h => ⟨h.bt, by rw [prs_snoc hi, hc]; simpa using h.om⟩)
  (fun i hi w' hc h => by
   have hin := cnt_in hc
   have hmem := HNU.out.2.1.all (E[i].f.toNat, E[i].t.toNat) (by
    unfold prs
    exact List.mem_map.2 ⟨E[i], List.mem_filter.2 ⟨List.getElem_mem hi, hc⟩, rfl⟩)
   have hcall := net1_any nums HNU.out.2.2.1 HNU.out.2.2.2.2 (.slice no nums.length nc) w1.heap.size (w1.heap.size + 1) nums.length rfl (by omega) E[i].f.toNat E[i].t.toNat hmem.1 hmem.2 (rowOf (pl nums (prs n (E.take i)))) (fun p => by
    refine Nat.le_trans (rowOf_len _ _) ?_
    unfold pl
    rw [List.length_map]
    have h1 := prs_len n (E.take i)
    have h2 := List.length_take_le i E
    have h3 := HNN.out.2.2
    omega) w' (hiiX w' h.bt) (kwb.but h.bt (by omega)) h.om
   rw [show ((E[i].f.toNat : Nat) : Int) = E[i].f by omega, show ((E[i].t.toNat : Nat) : Int) = E[i].t by omega] at hcall
   refine hcall.mono ?_
   rintro r w2 ⟨rfl, hb, hom2⟩
   refine ⟨rfl, h.bt.trans hb, ?_⟩
   rw [prs_snoc hi, if_pos hc]
   unfold pl at hom2 ⊢
   rw [List.map_append, List.map_cons, List.map_nil, row_snoc]
   exact hom2) W3 ⟨But.refl _ _, hrow0 ▸ hom⟩)
 have HKW := hid_intro kwb
 have HWW := hid_intro (And.intro hbw (And.intro hs3 (And.intro hw1 hb3)))
 clear hsz hom kwb hb3 hbw hs3 hw1 hiiX hrow0 hW3
 refine HEA.out.mono ?_
 rintro r w4 ⟨rfl, h4⟩
 obtain ⟨hs3, hw1⟩ := And.intro HWW.out.2.1 HWW.out.2.2.1
 have kw4 := HKW.out.but h4.bt (by omega)
 obtain ⟨d0, d1⟩ := kw4.c2b
 have hk0 : Bk w4 w.heap.size #[.slice none 0 0, .slice none 0 0] := ((HK0.out.2.2.below HB1.out (by have := HK0.out.2.2.lt; omega)).below HWW.out.2.2.2 (by omega)).but h4.bt (by omega)
 have HK4 := hid_intro hk0
 have H4 := hid_intro h4
 obtain ⟨e0, e1⟩ := hk0.c2b
 have z0 := hk0.frz 0
 have z1 := hk0.frz 1
 obtain ⟨W5, hW5⟩ : ∃ W5, (w4.setCell ⟨w.heap.size, 0, none⟩ (.slice no nums.length nc)).setCell ⟨w.heap.size, 1, none⟩ (.slice (some ⟨w1.heap.size + 1, 0, none⟩) nums.length nums.length) = W5 := ⟨_, rfl⟩
 have k5 : Bk W5 w.heap.size #[.slice no nums.length nc, .slice (some ⟨w1.heap.size + 1, 0, none⟩) nums.length nums.length] := by rw [← hW5]; exact (HK4.out.set 0 _ rfl).set 1 _ rfl
 obtain ⟨g0, g1⟩ := k5.c2b
 clear kw4 hk0 h4 HEA k5
 go_wp2_with fail
 refine bodyPost_ret (v := .agg #[.slice no nums.length nc, .slice (some ⟨w1.heap.size + 1, 0, none⟩) nums.length nums.length]) ?_ rfl ?_
 ·rw [results_cell1 rfl]
  go_simp
 rw [HQ.out]
 have hb4 : Below w.heap.size w w4 := HWW.out.1.trans (H4.out.bt.toBelow (fun b hb => by omega) HWW.out.1.size)
 have hb5 : But (fun b => b = w.heap.size) w4 W5 := by rw [← hW5]; exact ((But.refl (fun b => b = w.heap.size) w4).set (p := ⟨w.heap.size, 0, none⟩) (Or.inl rfl) _).set (p := ⟨w.heap.size, 1, none⟩) (Or.inl rfl) _
 have hom := H4.out.om
 rw [List.take_length] at hom
 refine ⟨hb4.trans (hb5.toBelow (fun b hb => by omega) hb4.size), nums, _, _, rfl, ?_, ?_, HNU.out.2.1, HNU.out.2.2.1, HNU.out.2.2.2.1⟩
 ·refine HNU.out.1.carry (fun b hb hl => ⟨?_, by have := HK0.out.2.1; omega⟩)
  have h1 := HK0.out.2.1
  exact (hb5.block b (by have := hb4.size; have := H4.out.bt.size; have := HWW.out.2.1; omega) (by omega)).trans ((H4.out.bt.block b (by omega) (by omega)).trans (HWW.out.2.2.2.block b hl))
 ·obtain ⟨vs, q1, q2, q3, q4, q5⟩ := hom
  exact ⟨vs, q1, q2.but hb5 (by omega), fun h => h, fun i hi => ((q4 i hi).but hb5 (fun b hb h => by have := ((q4 i hi).lt hb).1; omega)).ii _ (fun b _ h => h)⟩
end Go.Proofs.Ytnlgeiofkfkhbaa
