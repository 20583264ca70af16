/-
  What slices.SortFunc leaves of a row of ranges, by their beginnings. Conditions: at most 2^40 ranges.
  What rx.Merge answers: the set of ranges. Conditions: at most 2^40 ranges.
-/
import Derived.Test.YtppilokmgdpnnaaGreatDoorJoined15
namespace Go.Proofs.YtppilokmgdpnnaaGreatDoor
open Go.RowKit Go.Shelf Go.Lib Go.Sort
attribute [local go_sem] setCell_drewN alloc_drewN

def encR (x : Int × Int) : List Value := [.int .i64 x.1, .int .i64 x.2]
set_option maxHeartbeats 1000000 in
theorem closureR (x y : Int × Int) (W : World) : Calls Tryz.prog 53 #[.agg #[.int .i64 x.1, .int .i64 x.2], .agg #[.int .i64 y.1, .int .i64 y.2]] W fun e w' => e = .returned (.int .i64 (Lib.compareInt x.1 y.1)) ∧ ∃ q os', w' = grow (W.drewN q) os' := by
  have hcon := fun W' => Tryz.cmp_Compare_int x.1 y.1 W'
  generalize Lib.compareInt x.1 y.1 = r at hcon ⊢
  go_enter Tryz.func53, Tryz.ntmps53
  go_wp2_with (go_at_call 54; refine (hcon _).mono ?_; rintro e w' ⟨rfl, rfl⟩)
  go_ret
  exact ⟨rfl, 0, _, by rw [alloc_eq_grow, alloc_eq_grow, grow_grow]; rfl⟩
theorem cmpLaysR (blk off size : Nat) (w : World) : CmpLays Tryz.prog 53 #[] encR 2 (fun x y => Lib.compareInt x.1 y.1) blk off size w := fun _ _ _ _ x y => closureR x y _
theorem ltR (x y : Int × Int) : ltOf (fun x y : Int × Int => Lib.compareInt x.1 y.1) x y = decide (x.1 < y.1) := by
  unfold ltOf Lib.compareInt
  by_cases h1 : x.1 < y.1
  · simp [h1]
  · by_cases h2 : y.1 < x.1 <;> simp [h1, h2]
theorem swoR : SWO (ltOf fun x y : Int × Int => Lib.compareInt x.1 y.1) where
  irrefl x := by rw [ltR]; simp
  trans x y z h1 h2 := by rw [ltR] at *; simp at *; omega
  ntrans x y z h1 h2 := by rw [ltR] at *; simp at *; omega
theorem aggR : ∀ w, (isAgg 46).run Tryz.prog w = .ok true w := Tryz.isAgg46
theorem sizeR : ∀ w, (Go.sizeOf 46).run Tryz.prog w = .ok 2 w := Tryz.sizeOf46
theorem d_at (l : List (Int × Int)) (i : Nat) (h : i < l.length) : l.toArray[i]! = ra l i := by
  rw [ra_get h, getElem!_pos l.toArray i (by simpa using h)]; simp

set_option maxHeartbeats 1000000 in
theorem sort_any (w : World) (B : Nat) (v : Value) (l : List (Int × Int)) (hown : OwnR w B v l) (hl : l.length ≤ 1099511627776) :
    Calls Tryz.prog 52 #[v, .func (.func 53) #[] #[]] w fun r w' => r = .returned (.tuple #[]) ∧ ∃ s, s.Perm l ∧ Rise s ∧ RI w' (· < B) s v ∧ Below B w w' := by
  by_cases hz : l = []
  · subst hz
    obtain ⟨ao, cap, rfl, _⟩ := (hown.ri (· < B) (fun b hb => by omega)).shape
    have h := AnyF.slices_SortFunc_none { Tryz.sortR with } ao cap (.func (.func 53) #[] #[]) w
    refine Calls.mono h ?_
    rintro e w' ⟨rfl, rfl⟩
    exact ⟨rfl, [], List.Perm.refl _, List.Pairwise.nil, hown.ri _ (fun b hb => by omega), Below.refl _ _⟩
  · have hw := hown.2
    have hlt := hown.lt
    obtain ⟨ao, cap, e, h1, h2, h3, h4⟩ := hown.ri (· < B) (fun b hb => by omega)
    have ho := hown.1
    rcases ho.2 with ⟨hn, hn2⟩ | ⟨g, cap', cur, hv, hb, hg, hc, hm, hs, ht⟩
    · exact absurd (List.eq_nil_of_length_eq_zero hn2) hz
    subst hv
    have hH : HoldsK encR 2 w g 0 l.toArray := by
      intro j hj
      have hj' : j < l.length * 2 := by simpa using hj
      rw [get_flatK _ _ _ j (by simpa using hj'), d_at l (j / 2) (by omega)]
      refine ⟨?_, ho.frozenAt _⟩
      rw [Nat.zero_add, ho.cellAt j hj']
      have hf := flat_at l (j / 2) (by omega)
      rcases (by omega : j = j / 2 * 2 ∨ j = j / 2 * 2 + 1) with hj2 | hj2
      · have hm : j % 2 = 0 := by omega
        rw [hm]; conv => lhs; rw [hj2]
        exact hf.1
      · have hm : j % 2 = 1 := by omega
        rw [hm]; conv => lhs; rw [hj2]
        exact hf.2
    have hgl := (hlt g rfl).2
    have eg : ∀ args w, (callFunc 53 args).run Tryz.prog w = .ok (.enter 53 args) w := enters_of Tryz.func53 (by kernel_rfl) rfl
    have hcon := AnyQ.slices_SortFunc Tryz.sortR 2 aggR sizeR encR (fun _ => rfl) (fun x v hv => by simp [encR] at hv; rcases hv with rfl | rfl <;> rfl) (fun x y => Lib.compareInt x.1 y.1) swoR 53 #[] g 0 cap' l.toArray w eg (cmpLaysR g 0 l.toArray.size w) hH hgl (by simp; omega)
    refine Calls.mono hcon ?_
    rintro e2 w' ⟨rfl, d', n, os, hp, hso, rfl⟩
    have hds : d'.size = l.length := by simpa using hp.1
    have hperm : d'.toList.Perm l := by
      have := hp.2.2
      rw [show l.toArray.size = l.length by simp] at this
      rw [← hds] at this
      have e2 : List.take d'.size l = l := by rw [hds]; exact List.take_length
      simp at this
      rwa [e2] at this
    have hH2 := holdsK_sortWorldK_c encR 2 w g 0 l.toArray d' n os hH hgl (by simpa using hds)
    have hi64 : ∀ r ∈ d'.toList, I64 r.1 ∧ I64 r.2 := fun r hr => hw r (hperm.mem_iff.1 hr)
    have hra : ∀ i, i < d'.size → d'[i]! = ra d'.toList i := fun i hi => by rw [ra_get (by simpa using hi), getElem!_pos d' i hi]; simp
    refine ⟨rfl, d'.toList, hperm, ?_, ⟨some ⟨g, 0, none⟩, cap', by simp [hds], by simpa [hds] using hc, hm, hi64, Or.inr ⟨g, 0, rfl, by omega, fun i hi => ?_⟩⟩, ?_⟩
    · unfold Rise
      rw [List.pairwise_iff_getElem]
      intro i j hi hj hij
      have := hso i j (Nat.zero_le _) hij (by simp [← hds]; simpa using hj)
      rw [ltR, hra i (by simpa using hi), hra j (by simpa using hj), ra_get hi, ra_get hj] at this
      have := of_decide_eq_false this
      omega
    · have hi' : i < d'.size := by simpa using hi
      have c0 := HoldsK.cell hH2 hi' (show 0 < 2 by omega)
      have c1 := HoldsK.cell hH2 hi' (show 1 < 2 by omega)
      rw [hra i hi'] at c0 c1
      exact ⟨c0.1, c1.1⟩
    · refine ⟨rfl, rfl, rfl, size_sortWorldK_c encR 2 w g 0 n d' os, fun k hk => ?_⟩
      have hk2 : k < w.heap.size := by omega
      show (grow (putRowK encR 2 (Sort.ahead w n) g 0 d') os).heap[k]? = _
      rw [heap_grow_old _ _ (by show k < (putRow id (Sort.ahead w n) g 0 _).heap.size; rw [size_putRow]; exact hk2)]
      show ((Sort.ahead w n).heap.modify g _)[k]? = _
      rw [Array.getElem?_modify, if_neg (by omega)]
      rfl
end Go.Proofs.YtppilokmgdpnnaaGreatDoor

namespace Go.Proofs.YtppilokmgdpnnaaGreatDoor
open Go.RowKit
attribute [local go_sem] setCell_drewN alloc_drewN

theorem drop_ra (s : List (Int × Int)) (k : Nat) (h : k < s.length) : s.drop k = ra s k :: s.drop (k + 1) := by
  rw [ra_get h]; exact List.drop_eq_getElem_cons h
/-- One range more, whatever the world. -/
theorem wpList_append_rngW {W : World} {ops : Array Oper} {rest : List Oper} {o : Oper} {a : Act} {Q : Exit → Act → World → Prop} (hgd : o.guard = none) (s x : Operand)
    (ho : o.op = .call { callee := .builtin .append, args := #[s, x], argTypes := #[23, 23] })
    (B : Nat) (v : Value) (l : List (Int × Int)) (p q : Int) (hs : a.eval s = v) (hown : OwnR W B v l) (hB : B ≤ W.heap.size) (hsz : l.length + 1 ≤ 1099511627776) (hp : I64 p ∧ I64 q)
    (t : Nat) (hx : a.eval x = .slice (some ⟨t, 0, none⟩) 1 1) (c0 : W.cell? ⟨t, 0, none⟩ = some (.int .i64 p)) (c1 : W.cell? ⟨t, 1, none⟩ = some (.int .i64 q))
    (h : ∀ v' w', OwnR w' B v' (l ++ [(p, q)]) → W.grownBy w' v.ownBlock → wpList Tryz.prog ops Q rest (a.put o.dst v') w') :
    wpList Tryz.prog ops Q (o :: rest) a W := by
  refine wpList_append_rngs hgd s x ho B v (.slice (some ⟨t, 0, none⟩) 1 1) l [(p, q)] hs hown hB hsz (fun _ => False) ⟨some ⟨t, 0, none⟩, 1, rfl, Nat.le_refl _, by unfold maxLen; omega, fun r hr => by obtain rfl : r = (p, q) := by simpa using hr
                                                                                                                                                                                                          exact hp, Or.inr ⟨t, 0, rfl, fun h => h, fun i hi => ?_⟩⟩ (by simp) hx h
  obtain rfl : i = 0 := by simp at hi; omega
  exact ⟨c0, c1⟩
theorem OwnR.shape {w : World} {B : Nat} {v : Value} {l : List (Int × Int)} (h : OwnR w B v l) : ∃ ao cap, v = .slice ao l.length cap := by
  rcases h.1.2 with ⟨rfl, hn⟩ | ⟨g, cap, cur, rfl, _⟩
  · exact ⟨none, 0, by rw [hn]⟩
  · exact ⟨_, cap, rfl⟩
set_option maxRecDepth 100000 in
set_option maxHeartbeats 3200000 in
theorem merge_any (l : List (Int × Int)) (v : Value) (w : World) (X : Nat → Prop) (hR : RI w X l v) (hl : l.length ≤ 1099511627776) :
    Calls Tryz.prog 43 #[v] w fun r w' => ∃ v', r = .returned v' ∧ OwnR w' w.heap.size v' (mergeL l) ∧ Below w.heap.size w w' := by
  have hw := within_any l v w X hR hl
  have hwl := within_len l
  have hwo := within_ok l
  go_enter Tryz.func43, Tryz.ntmps43
  go_wp2_with fail
  refine hw.mono ?_; rintro r w1 ⟨v1, rfl, ho1, hb1⟩
  have hso := sort_any w1 w.heap.size v1 (withinL l) ho1 (by omega)
  go_wp2_with fail
  refine hso.mono ?_; rintro r w2 ⟨rfl, s, hp, hrise, hri, hb2⟩
  have hb12 : Below w.heap.size w w2 := hb1.trans hb2
  have hgl := glue_merge l s hp hrise
  have hsl : s.length ≤ 1099511627776 := by rw [hp.length_eq]; omega
  have hsok : ∀ r ∈ s, okR r := fun r hr => hwo r (hp.mem_iff.1 hr)
  obtain ⟨ao, cap, rfl, hc, hcm, hwf, hlie⟩ := hri
  have HB := hid_intro hb12
  have HO := hid_intro hsok
  have HG := hid_intro hgl
  clear hw hso ho1 hb1 hb2 hp hrise hwl hwo hb12 hsok hgl hR hl
  go_wp2_with fail
  have hlI : (s.length : Int) ≤ 1099511627776 := by omega
  go_loopg [4, 14] s.length (fun m s4 s14 wr => ∃ (k : Nat) (acc : List (Int × Int)), k ≤ s.length ∧ m = s.length - k ∧ s14 = .int .i64 (k : Int) ∧ acc.length ≤ k ∧ OwnR wr w2.heap.size s4 acc.reverse ∧ Hid (∀ r ∈ acc, okR r) ∧ Hid (glue acc (s.drop k) = mergeL l) ∧ Below w2.heap.size w2 wr)
  case atStart => exact ⟨0, [], Nat.zero_le _, rfl, rfl, Nat.le_refl _, OwnR.nil _ _, fun r hr => by simp at hr, HG.out, Below.refl _ _⟩
  case round =>
    clear HG
    obtain ⟨k, acc, hk, rfl, rfl, hak, hown, HA, HG, hb⟩ := hrel
    by_cases hlt : k < s.length
    · rcases hlie with hlie | ⟨b, off, rfl, _, hcell⟩
      · subst hlie; simp at hlt
      have q0 := (hb.cell (p := ⟨b, off + k * 2, none⟩) (World.block_lt_of_cell? w2 _ (hcell k hlt).1)).trans (hcell k hlt).1
      have q1 := (hb.cell (p := ⟨b, off + k * 2 + 1, none⟩) (World.block_lt_of_cell? w2 _ (hcell k hlt).2)).trans (hcell k hlt).2
      have hI : (k : Int) < (s.length : Int) := by omega
      have hokx := HO.out _ (ra_mem hlt)
      have hdr := drop_ra s k hlt
      generalize ra s k = rr at *
      obtain ⟨x, y⟩ := rr
      simp only at q0 q1
      obtain ⟨x0, x1, x2⟩ := hokx
      simp only at x0 x1 x2
      rw [hdr] at HG
      have hi : I64 x ∧ I64 y := ⟨I64_of (by omega) (by omega), I64_of (by omega) (by omega)⟩
      have hok : okR (x, y) := ⟨x0, x1, x2⟩
      have HOWN := hid_intro hown
      have HBR := hid_intro hb
      clear hcell hwf hdr hc hcm
      cases acc with
      | nil =>
        obtain ⟨ao4, cap4, hsh⟩ := hown.shape
        simp only [List.reverse_nil, List.length_nil] at hsh
        subst hsh
        have HG2 : Hid (glue [(x, y)] (s.drop (k + 1)) = mergeL l) := hid_intro (by rw [← HG.out]; rfl)
        clear HG hown hb HA
        go_wp2_with fail
        go_region
        all_goals
          go_wp2_with (at_builtin; refine wpList_append_rngW rfl _ _ rfl w2.heap.size _ [] x y rfl ?cO ?cB ?cS hi _ rfl ?c0 ?c1 ?_)
          case cO => exact HOWN.out.below (by with_reducible repeat (first | exact Below.refl _ _ | refine vb_a ?_ _ | refine vb_d ?_))
          case c0 => simp [go_sem]
          case c1 => simp [go_sem]
          case cB => have := HBR.out.size; simp; omega
          case cS => simp
          intro v' w3 ho3 hg3
          have hb3 : Below w2.heap.size w2 w3 := (show Below w2.heap.size w2 _ by with_reducible repeat (first | exact HBR.out | refine vb_d ?_ | refine vb_a ?_ _)).grown hg3 (by have := HBR.out.size; simp; omega) (fun j hj => (HOWN.out.lt j hj).1)
          have HX : Hid (OwnR w3 w2.heap.size v' [(x, y)] ∧ Below w2.heap.size w2 w3) := ⟨ho3, hb3⟩
          clear ho3 hg3 hb3
          go_wp2_with fail
          go_roundg (s.length - (k + 1))
          case measure => omega
          case rel => exact ⟨k + 1, [(x, y)], by omega, rfl, by simp, by simp, HX.out.1, fun r hr => by obtain rfl : r = (x, y) := by simpa using hr
                                                                                                        exact hok, HG2, HX.out.2⟩
      | cons z acc =>
        obtain ⟨a, c⟩ := z
        have hokz := HA.out (a, c) (by simp)
        obtain ⟨a0, a1, a2⟩ := hokz
        simp only at a0 a1 a2
        rw [List.reverse_cons] at hown
        obtain ⟨g, cap4, hsh, k0, k1, kf, kB, kL⟩ := hown.last
        simp only [List.length_reverse] at hsh k0 k1
        subst hsh
        have hn : acc.length + 1 ≤ k := by simpa using hak
        have HL : Hid (((a, c) :: acc).length ≤ k + 1) := hid_intro (by simp; omega)
        obtain ⟨W, hW⟩ : ∃ W, wr.alloc (.cells #[.int .i64 x, .int .i64 y] 46) = W := ⟨_, rfl⟩
        have hWb : Below wr.heap.size wr W := hW ▸ vb_a (Below.refl _ _) _
        have b0 : W.cell? ⟨wr.heap.size, 0, none⟩ = some (.int .i64 x) := by rw [← hW]; simp [go_sem]
        have b1 : W.cell? ⟨wr.heap.size, 1, none⟩ = some (.int .i64 y) := by rw [← hW]; simp [go_sem]
        have k0' := (hWb.cell (p := ⟨g, acc.length * 2, none⟩) kL).trans k0
        have k1' := (hWb.cell (p := ⟨g, acc.length * 2 + 1, none⟩) kL).trans k1
        have kf' := (hWb.frozen (p := ⟨g, acc.length * 2 + 1, none⟩) kL).trans (kf _)
        have HOW := hid_intro (hown.below hWb)
        have HBW := hid_intro (vb_t hb hWb)
        have HWb := hid_intro hWb
        have hmk : (acc.length : Int) ≤ 1099511627776 := by omega
        clear k0 k1 kf hown hb HOWN HBR hWb
        by_cases hxc : x ≤ c + 1
        · have HG2 : Hid (glue ((a, max c y) :: acc) (s.drop (k + 1)) = mergeL l) := hid_intro (by rw [← HG.out, glue, if_pos hxc])
          have hT := OwnR.turn HOW.out (by simp) (max c y) (I64_of (by omega) (by omega))
          rw [List.length_reverse] at hT
          have HT := hid_intro hT
          have hokM : okR (a, max c y) := ⟨a0, by show a ≤ max c y; omega, by show max c y ≤ 1114111; omega⟩
          have HKr : Hid (∀ r ∈ (a, max c y) :: acc, okR r) := hid_intro (fun r hr => by
            rcases List.mem_cons.1 hr with rfl | hr
            · exact hokM
            · exact HA.out r (List.mem_cons_of_mem _ hr))
          have HTd : Hid (OwnR (W.setCell ⟨g, acc.length * 2 + 1, none⟩ (.int .i64 (max c y))).drew.drew w2.heap.size (.slice (some ⟨g, 0, none⟩) (acc.length + 1) cap4) (acc.reverse ++ [(a, max c y)])) := hid_intro hT.1
          have HBd : Hid (Below w2.heap.size w2 (W.setCell ⟨g, acc.length * 2 + 1, none⟩ (.int .i64 (max c y))).drew.drew) := hid_intro (vb_d (vb_d (vb_s HBW.out kB _)))
          clear HT HG hT hokM HA x0 x1 x2 hok hi hak
          go_wp2_with fail
          go_region
          all_goals
            go_wp2_with fail
            go_region
            all_goals
              go_wp2_with fail
              go_roundg (s.length - (k + 1))
              case measure => omega
              case rel =>
                refine ⟨k + 1, (a, max c y) :: acc, by omega, rfl, by simp, HL.out, ?_, HKr, HG2, ?_⟩
                · rw [List.reverse_cons]; exact HTd.out
                · exact HBd.out
        · have HG2 : Hid (glue ((x, y) :: (a, c) :: acc) (s.drop (k + 1)) = mergeL l) := hid_intro (by rw [← HG.out, glue, if_neg hxc])
          have HK := hid_intro (And.intro hok HA.out)
          clear HG HA x0 x1 x2 hok
          go_wp2_with fail
          go_region
          all_goals
            go_wp2_with (at_builtin; refine wpList_append_rngW rfl _ _ rfl w2.heap.size _ (acc.reverse ++ [(a, c)]) x y rfl ?cO ?cB ?cS hi _ rfl ?c0 ?c1 ?_)
            case cO => exact HOW.out.below (by with_reducible repeat (first | exact Below.refl _ _ | refine vb_d ?_ | refine vb_a ?_ _))
            case c0 => simp [go_sem]
            case c1 => simp [go_sem]
            case cB => have := HBW.out.size; simp; omega
            case cS => simp; omega
            intro v' w3 ho3 hg3
            have hb3 : Below w2.heap.size w2 w3 := (show Below w2.heap.size w2 _ by with_reducible repeat (first | exact HBW.out | refine vb_d ?_ | refine vb_a ?_ _)).grown hg3 (by have := HBW.out.size; simp; omega) (fun j hj => (HOW.out.lt j hj).1)
            have HX : Hid (OwnR w3 w2.heap.size v' ((x, y) :: (a, c) :: acc).reverse ∧ Below w2.heap.size w2 w3) := ⟨by rw [List.reverse_cons, List.reverse_cons, List.append_assoc]; exact ho3, hb3⟩
            clear ho3 hg3 hb3
            go_wp2_with fail
            go_roundg (s.length - (k + 1))
            case measure => omega
            case rel => exact ⟨k + 1, (x, y) :: (a, c) :: acc, by omega, rfl, by simp, by have := hn; simp; omega, HX.out.1, fun r hr => by
                                rcases List.mem_cons.1 hr with rfl | hr
                                · exact HK.out.1
                                · exact HK.out.2 r hr, HG2, HX.out.2⟩
    · obtain rfl : k = s.length := by omega
      have hI : ¬ ((s.length : Int) < (s.length : Int)) := by omega
      have e : mergeL l = acc.reverse := by
        have := HG.out
        rw [List.drop_length] at this
        rw [← this]
        cases acc <;> rfl
      rw [← e] at hown
      clear HG e
      go_wp2_with fail
      go_ret
      exact ⟨_, rfl, hown.mono HB.out.size, vb_t HB.out hb⟩
end Go.Proofs.YtppilokmgdpnnaaGreatDoor
