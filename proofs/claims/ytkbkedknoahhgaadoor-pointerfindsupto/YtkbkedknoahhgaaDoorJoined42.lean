/-
  All pointers of a value that may be, as the program makes them. Conditions: nothing in the value is longer than 2^20, at most 2^20 values.
-/
import Derived.Test.YtkbkedknoahhgaaDoorJoined37
namespace Go.Proofs.YtkbkedknoahhgaaDoor
open Go.RowKit
attribute [local go_sem] setCell_drewN alloc_drewN

theorem prt_len {k : Int} {ks : List ByteArray} {i : Nat} (hi : i ≤ 1048576) (h : ∀ s ∈ ks, s.size ≤ 1048576) : (prt k ks i).length ≤ 1048576 := by
  unfold prt
  by_cases h6 : k = 6
  · rw [if_pos h6]
    by_cases hl : i < ks.length
    · have := h ks[i] (List.getElem_mem hl)
      rw [List.getD_eq_getElem?_getD, List.getElem?_eq_getElem hl]
      show (ks[i]).data.toList.length ≤ _
      rw [Array.length_toList]
      exact this
    · rw [List.getD_eq_getElem?_getD, List.getElem?_eq_none (by omega)]
      simp
  · rw [if_neg h6]
    have := Lib.itoa_length_le (i : Int) (by omega) (by omega)
    omega
theorem textL1_len (p : List UInt8) (hp : p.length ≤ 1048576) : (textL [p]).length ≤ 4194304 := by
  have := textL_len [p]
  simp [sumL] at this
  omega
/-- What it answers of a value. -/
def innerC (v : JV) : Prop := ∀ (f : Nat → Value) (w : World) (B : Nat) (ov : Value) (xs : List (List UInt8)) (a : List UInt8), VI w (fun b => B ≤ b) v f → OwnS w B ov xs → B ≤ w.heap.size → Lib.TabIs Tryd.prog w "internal/strconv.uint64pow10" .u64 Lib.pow10Tab → 2 < B →
  xs.length + cntV v ≤ 8388608 → a.length + dpN v * 4194304 ≤ 1099511627776 →
  Calls Tryd.prog 23 #[ov, .string (bs a), va f] w fun r w' => ∃ v', r = .returned v' ∧ OwnS w' B v' (xs ++ allJ v a) ∧ Stp7 B w ov w' v'
set_option maxRecDepth 100000 in
set_option maxHeartbeats 6400000 in
theorem inner_any (v : JV) : ShV v → Bd7 1048576 v → innerC v := by
  induction v using JV.ind with
  | h k n g e t l ks ih =>
  intro hsh hbd f w B ov xs a hv hO hB hT hgB hcnt hdep
  have hel := elN_sh hsh
  cases hsh with
  | mk s1 s2 s3 s4 s5 =>
  cases hbd with
  | mk d1 d2 d3 d4 =>
  rw [cntV] at hcnt
  rw [dpN] at hdep
  obtain ⟨ao, cap, ko, kc, G, hva, _, _, hr, hl, hk⟩ := hv.open
  have hlB : l = [] ∨ ∃ b off, ao = some ⟨b, off, none⟩ ∧ b < B ∧ ∀ i, i < l.length → ∀ j, j < 7 → w.cell? ⟨b, off + i * 7 + j, none⟩ = some (G i j) := by
    cases hv with
    | mk ao' cap' G' f0 f1 f2 f3 f4 f5 f6 hc hs hw hl' hr' =>
      rcases hl with hl | ⟨b, off, h1, h2, h3⟩
      · exact .inl hl
      · rcases hl' with hl' | ⟨b', off', h1', h2', h3'⟩
        · exact .inl hl'
        · right
          refine ⟨b, off, h1, ?_, h3⟩
          have e5 : (va f) = .agg #[f 0, f 1, f 2, f 3, f 4, f 5, f 6] := rfl
          rw [e5] at hva
          injection hva with hva
          have h5 : f 5 = .slice ao l.length cap := by
            have := congrArg (fun q => q[5]?) hva
            simpa using this
          rw [f5] at h5
          injection h5 with h5 _ _
          rw [h1', h1] at h5
          injection h5 with h5
          injection h5 with h5 _ _
          rw [← h5]
          exact Nat.lt_of_not_le h2'
  have hkB : ks = [] ∨ ∃ b off, ko = some ⟨b, off, none⟩ ∧ b < B ∧ ∀ i (h : i < ks.length), w.cell? ⟨b, off + i, none⟩ = some (.string ks[i]) := by
    cases hv with
    | mk ao' cap' G' f0 f1 f2 f3 f4 f5 f6 hc hs hw hl' hr' =>
      obtain ⟨ko', kc', e6, k1, k2, _, k4⟩ := f6
      rcases hk with hk | ⟨b, off, h1, h2, h3⟩
      · exact .inl hk
      · rcases k4 with k4 | ⟨b', off', h1', h2', h3'⟩
        · exact .inl k4
        · right
          refine ⟨b, off, h1, ?_, h3⟩
          have e5 : (va f) = .agg #[f 0, f 1, f 2, f 3, f 4, f 5, f 6] := rfl
          rw [e5] at hva
          injection hva with hva
          have h5 : f 6 = .slice ko ks.length kc := by
            have := congrArg (fun q => q[6]?) hva
            simpa using this
          rw [e6] at h5
          injection h5 with h5 _ _
          rw [h1', h1] at h5
          injection h5 with h5
          injection h5 with h5 _ _
          rw [← h5]
          exact Nat.lt_of_not_le h2'
  rw [hva]
  have hlI : (l.length : Int) ≤ 1048576 := by omega
  obtain ⟨P, hP⟩ : ∃ P : Ending → World → Prop, P = fun r w' => ∃ v', r = .returned v' ∧ OwnS w' B v' (xs ++ allJ (.mk k n g e t l ks) a) ∧ Stp7 B w ov w' v' := ⟨_, rfl⟩
  rw [← hP]
  have HPP := hid_intro hP
  have hC0 := C7.new w (.int .i64 k) (.bool n) (.string g) (.int .i64 e) (.string t) (.slice ao l.length cap) (.slice ko ks.length kc) 28
  obtain ⟨W, hW⟩ : ∃ W, w.alloc (.cells #[.int .i64 k, .bool n, .string g, .int .i64 e, .string t, .slice ao l.length cap, .slice ko ks.length kc] 28) = W := ⟨_, rfl⟩
  rw [hW] at hC0
  have hbW : Below w.heap.size w W := hW ▸ bl_a (Below.refl _ _) _
  have hsz : W.heap.size = w.heap.size + 1 := by rw [← hW]; simp
  have HOW : Hid (OwnS W B ov xs) := hid_intro (hO.below hbW)
  have HBW : Hid (B ≤ W.heap.size) := hid_intro (by omega)
  have HXL : Hid (xs.length ≤ 1099511627776) := hid_intro (by omega)
  have HNE : Hid (ov.ownBlock ≠ some w.heap.size) := hid_intro (fun h => by have := (World.ownsRow.lt hO _ h).2; omega)
  have HSW : Hid (Stp7 B w ov W ov) := hid_intro (Stp7.of_below ov hB hbW)
  have HC0 := hid_intro hC0
  have HSZ := hid_intro hsz
  -- what holds in every world that keeps what lies below B
  have HL : Hid (∀ w', Below B w w' → ∀ i, i < l.length → ∃ b off, ao = some ⟨b, off, none⟩ ∧ b < B ∧ ∀ j, j < 7 → w'.cell? ⟨b, off + i * 7 + j, none⟩ = some (G i j)) := hid_intro (fun w' hb i hi => by
    rcases hlB with h | ⟨b, off, h1, h2, h3⟩
    · rw [h] at hi; exact absurd hi (by simp)
    · exact ⟨b, off, h1, h2, fun j hj => by rw [hb.cell (p := ⟨b, off + i * 7 + j, none⟩) h2]; exact h3 i hi j hj⟩)
  have HKY : Hid (∀ w', Below B w w' → k = 6 → ∀ i, i < l.length → ∃ b off, ko = some ⟨b, off, none⟩ ∧ b < B ∧ i < ks.length ∧ w'.cell? ⟨b, off + i, none⟩ = some (.string (ks.getD i ⟨#[]⟩))) := hid_intro (fun w' hb h6 i hi => by
    have hik : i < ks.length := by rw [s3 h6]; exact hi
    rcases hkB with h | ⟨b, off, h1, h2, h3⟩
    · rw [h] at hik; exact absurd hik (by simp)
    · refine ⟨b, off, h1, h2, hik, ?_⟩
      rw [hb.cell (p := ⟨b, off + i, none⟩) h2, h3 i hik, List.getD_eq_getElem?_getD, List.getElem?_eq_getElem hik]; rfl)
  have HTB : Hid (∀ w', Below B w w' → Lib.TabIs Tryd.prog w' "internal/strconv.uint64pow10" .u64 Lib.pow10Tab) := hid_intro (fun w' hb => tab_B hT hb hgB)
  have HI : Hid (∀ (w' : World) (i : Nat) (h : i < l.length) (vi : Value) (ys : List (List UInt8)), Below B w w' → OwnS w' B vi ys → ys.length + cntV l[i] ≤ 8388608 → Calls Tryd.prog 23 #[vi, .string (bs a ++ bs (47 :: encL ndT codeT (prt k ks i))), .agg #[G i 0, G i 1, G i 2, G i 3, G i 4, G i 5, G i 6]] w' fun r w3 => ∃ v2, r = .returned v2 ∧ OwnS w3 B v2 (ys ++ allJ l[i] (atP a (prt k ks i))) ∧ Stp7 B w' vi w3 v2) := hid_intro (fun w' i h vi ys hb ho hc => by
    have hp := prt_len (k := k) (ks := ks) (i := i) (by omega) d3
    have ht := textL1_len _ hp
    have ht2 : (atP a (prt k ks i)).length ≤ a.length + 4194304 := by rw [atP_text, List.length_append]; omega
    have hdm := dpL_mem l l[i] (List.getElem_mem h)
    have := ih l[i] (List.getElem_mem h) (s4 _ (List.getElem_mem h)) (d4 _ (List.getElem_mem h)) (G i) w' B vi ys (atP a (prt k ks i)) ((hr i h).carry (fun b hx hlt => ⟨hb.block b (Nat.lt_of_not_le hx), hx⟩)) ho (Nat.le_trans hB hb.size) (HTB.out w' hb) hgB hc (by
      have h1 : dpN l[i] * 4194304 + 4194304 ≤ (dpL l + 1) * 4194304 := by omega
      omega)
    rw [bs_append]
    exact this)
  have HPL : Hid (∀ i, i < l.length → (prt k ks i).length ≤ 1048576) := hid_intro (fun i hi => prt_len (by omega) d3)
  have HAL : Hid (a.length ≤ 1099511627776) := hid_intro (by omega)
  have HCN := hid_intro hcnt
  have HBB := hid_intro hB
  have HLEN := hid_intro d1
  clear hP hO hv hr hl hk hlB hkB hva ih s1 s2 s3 s4 s5 d1 d2 d3 d4 hT hgB hC0 hbW hB hcnt hdep
  have HEL := hid_intro hel
  clear hel
  go_enter Tryd.func23, Tryd.ntmps23
  go_wp2_with (at_builtin; refine wpList_append_sl rfl _ _ rfl B ov xs rfl HOW.out HBW.out HXL.out a _ HSZ.out rfl ?_; intro g1 cap1 w1 hO1 hS1; have HO1 := hid_intro hO1; have HS1 := hid_intro (HSW.out.trans hS1); have HN1 := hid_intro (hS1.ne (k := w.heap.size) (by have := HSZ.out; omega) HNE.out); have HC1 := hid_intro (HC0.out.blk (hS1.kept w.heap.size (by have := HSZ.out; omega) HNE.out)); clear hO1 hS1; obtain ⟨a0, a1, a2, a3, a4, a5, a6, q0, q1, q2, q3, q4, q5, q6⟩ := HC1.out; have he := elements_any k n g e t l ks ao ko cap kc w1; rw [HEL.out] at he)
  refine he.mono ?_; rintro r w2 ⟨rfl, hb2⟩
  have HB1 : Hid (B ≤ w1.heap.size) := hid_intro (Nat.le_trans HBB.out HS1.out.bel.size)
  have HS2 := hid_intro (HS1.out.trans (Stp7.of_below (.slice (some ⟨g1, 0, none⟩) (xs.length + 1) cap1) HB1.out hb2))
  have HO2 := hid_intro (HO1.out.below hb2)
  have HC2 := hid_intro (HC1.out.below hb2 HC1.out.lt)
  clear he hb2 a0 a1 a2 a3 a4 a5 a6 q0 q1 q2 q3 q4 q5 q6 hW hsz
  go_wp2_with fail
  go_loopg [0, 14] l.length (fun m s0 sI wr => ∃ (i : Nat) (vi : Value), m = l.length - i ∧ s0 = vi ∧ sI = .int .i64 (i : Int) ∧ Hid (i ≤ l.length) ∧ Hid (OwnS wr B vi (xs ++ [a] ++ allL (l.take i) k ks 0 a)) ∧ Hid (Stp7 B w ov wr vi) ∧ Hid (C7 wr w.heap.size (.int .i64 k) (.bool n) (.string g) (.int .i64 e) (.string t) (.slice ao l.length cap) (.slice ko ks.length kc)) ∧ Hid (vi.ownBlock ≠ some w.heap.size))
  case atStart => exact ⟨0, _, rfl, rfl, rfl, Nat.zero_le _, by rw [List.take_zero, allL, List.append_nil]; exact HO2.out, HS2.out, HC2.out, HN1.out⟩
  case round =>
    obtain ⟨i, vi, rfl, hs0, rfl, HIL, HO, HS, HC, HVB⟩ := hrel
    have hs0' := hs0.symm
    subst hs0'
    by_cases hlt : (i : Int) < (l.length : Int)
    · have HLT : Hid (i < l.length) := hid_intro (by omega)
      have HBR : Hid (B ≤ wr.heap.size) := hid_intro (Nat.le_trans HBB.out HS.out.bel.size)
      have HBX : Hid (∀ w', Below wr.heap.size wr w' → Below B w w') := hid_intro (fun w' hb => HS.out.bel.trans (hb.mono HBR.out))
      obtain ⟨b, off, hao, hbB, he7⟩ := HL.out wr HS.out.bel i HLT.out
      subst hao
      have HCE : Hid (∀ w', C7 w' w.heap.size (.int .i64 k) (.bool n) (.string g) (.int .i64 e) (.string t) (.slice (some ⟨b, off, none⟩) l.length cap) (.slice ko ks.length kc) → Below B w w' → (w'.cell? ⟨w.heap.size, 0, none⟩ = some (.int .i64 k) ∧ w'.cell? ⟨w.heap.size, 1, none⟩ = some (.bool n) ∧ w'.cell? ⟨w.heap.size, 2, none⟩ = some (.string g) ∧ w'.cell? ⟨w.heap.size, 3, none⟩ = some (.int .i64 e) ∧ w'.cell? ⟨w.heap.size, 4, none⟩ = some (.string t) ∧ w'.cell? ⟨w.heap.size, 5, none⟩ = some (.slice (some ⟨b, off, none⟩) l.length cap) ∧ w'.cell? ⟨w.heap.size, 6, none⟩ = some (.slice ko ks.length kc) ∧ w'.cell? ⟨b, off + i * 7, none⟩ = some (G i 0) ∧ w'.cell? ⟨b, off + i * 7 + 1, none⟩ = some (G i 1) ∧ w'.cell? ⟨b, off + i * 7 + 2, none⟩ = some (G i 2) ∧ w'.cell? ⟨b, off + i * 7 + 3, none⟩ = some (G i 3) ∧ w'.cell? ⟨b, off + i * 7 + 4, none⟩ = some (G i 4) ∧ w'.cell? ⟨b, off + i * 7 + 5, none⟩ = some (G i 5) ∧ w'.cell? ⟨b, off + i * 7 + 6, none⟩ = some (G i 6))) := hid_intro (fun w' hc hb => by
        obtain ⟨b', off', h1, h2, h3⟩ := HL.out w' hb i HLT.out
        injection h1 with h1
        injection h1 with h1 h1' _
        subst h1 h1'
        exact ⟨hc.c0, hc.c1, hc.c2, hc.c3, hc.c4, hc.c5, hc.c6, h3 0 (by omega), h3 1 (by omega), h3 2 (by omega), h3 3 (by omega), h3 4 (by omega), h3 5 (by omega), h3 6 (by omega)⟩)
      have HCW : Hid (∀ w', Below wr.heap.size wr w' → (w'.cell? ⟨w.heap.size, 0, none⟩ = some (.int .i64 k) ∧ w'.cell? ⟨w.heap.size, 1, none⟩ = some (.bool n) ∧ w'.cell? ⟨w.heap.size, 2, none⟩ = some (.string g) ∧ w'.cell? ⟨w.heap.size, 3, none⟩ = some (.int .i64 e) ∧ w'.cell? ⟨w.heap.size, 4, none⟩ = some (.string t) ∧ w'.cell? ⟨w.heap.size, 5, none⟩ = some (.slice (some ⟨b, off, none⟩) l.length cap) ∧ w'.cell? ⟨w.heap.size, 6, none⟩ = some (.slice ko ks.length kc) ∧ w'.cell? ⟨b, off + i * 7, none⟩ = some (G i 0) ∧ w'.cell? ⟨b, off + i * 7 + 1, none⟩ = some (G i 1) ∧ w'.cell? ⟨b, off + i * 7 + 2, none⟩ = some (G i 2) ∧ w'.cell? ⟨b, off + i * 7 + 3, none⟩ = some (G i 3) ∧ w'.cell? ⟨b, off + i * 7 + 4, none⟩ = some (G i 4) ∧ w'.cell? ⟨b, off + i * 7 + 5, none⟩ = some (G i 5) ∧ w'.cell? ⟨b, off + i * 7 + 6, none⟩ = some (G i 6))) := hid_intro (fun w' hb => HCE.out w' (HC.out.below hb HC.out.lt) (HBX.out w' hb))
      obtain ⟨I7, hI7⟩ : ∃ I7 : World → Value → Prop, I7 = fun wq v2 => OwnS wq B v2 (xs ++ [a] ++ allL (l.take (i + 1)) k ks 0 a) ∧ Stp7 B w ov wq v2 ∧ C7 wq w.heap.size (.int .i64 k) (.bool n) (.string g) (.int .i64 e) (.string t) (.slice (some ⟨b, off, none⟩) l.length cap) (.slice ko ks.length kc) ∧ v2.ownBlock ≠ some w.heap.size := ⟨_, rfl⟩
      have HI7 := hid_intro hI7
      have HDR : Hid (∀ wq v2, I7 wq v2 → I7 wq.drew v2) := hid_intro (by
        rw [hI7]
        rintro wq v2 ⟨h1, h2, h3, h4⟩
        exact ⟨h1, ⟨bl_d h2.bel, h2.kept, h2.loc⟩, ⟨h3.c0, h3.c1, h3.c2, h3.c3, h3.c4, h3.c5, h3.c6, h3.z0, h3.z1, h3.z2, h3.z3, h3.z4, h3.z5, h3.z6⟩, h4⟩)
      have HCI : Hid (∀ wq v2, I7 wq v2 → (wq.cell? ⟨w.heap.size, 0, none⟩ = some (.int .i64 k) ∧ wq.cell? ⟨w.heap.size, 1, none⟩ = some (.bool n) ∧ wq.cell? ⟨w.heap.size, 2, none⟩ = some (.string g) ∧ wq.cell? ⟨w.heap.size, 3, none⟩ = some (.int .i64 e) ∧ wq.cell? ⟨w.heap.size, 4, none⟩ = some (.string t) ∧ wq.cell? ⟨w.heap.size, 5, none⟩ = some (.slice (some ⟨b, off, none⟩) l.length cap) ∧ wq.cell? ⟨w.heap.size, 6, none⟩ = some (.slice ko ks.length kc) ∧ wq.cell? ⟨b, off + i * 7, none⟩ = some (G i 0) ∧ wq.cell? ⟨b, off + i * 7 + 1, none⟩ = some (G i 1) ∧ wq.cell? ⟨b, off + i * 7 + 2, none⟩ = some (G i 2) ∧ wq.cell? ⟨b, off + i * 7 + 3, none⟩ = some (G i 3) ∧ wq.cell? ⟨b, off + i * 7 + 4, none⟩ = some (G i 4) ∧ wq.cell? ⟨b, off + i * 7 + 5, none⟩ = some (G i 5) ∧ wq.cell? ⟨b, off + i * 7 + 6, none⟩ = some (G i 6))) := hid_intro (by
        rw [hI7]
        rintro wq v2 ⟨h1, h2, h3, h4⟩
        exact HCE.out wq h3 h2.bel)
      have HFN : Hid (∀ wq v2, I7 wq v2 → OwnS wq B v2 (xs ++ [a] ++ allL (l.take (i + 1)) k ks 0 a) ∧ Stp7 B w ov wq v2 ∧ C7 wq w.heap.size (.int .i64 k) (.bool n) (.string g) (.int .i64 e) (.string t) (.slice (some ⟨b, off, none⟩) l.length cap) (.slice ko ks.length kc) ∧ v2.ownBlock ≠ some w.heap.size) := hid_intro (by rw [hI7]; exact fun _ _ h => h)
      have HII : Hid (∀ w', Below wr.heap.size wr w' → Calls Tryd.prog 23 #[vi, .string (bs a ++ bs (47 :: encL ndT codeT (prt k ks i))), .agg #[G i 0, G i 1, G i 2, G i 3, G i 4, G i 5, G i 6]] w' fun r w3 => ∃ v2, r = .returned v2 ∧ I7 w3 v2) := hid_intro (fun w' hb => by
        refine (HI.out w' i HLT.out vi _ (HBX.out w' hb) (HO.out.below hb) (by
          rw [List.length_append, List.length_append, List.length_singleton, allL_len]
          have := cntL_split l i HLT.out
          have := HCN.out
          omega)).mono ?_
        rintro r w3 ⟨v2, rfl, ho, hs⟩
        have hst : Stp7 B wr vi w3 v2 := (Stp7.of_below vi HBR.out hb).trans hs
        refine ⟨v2, rfl, ?_⟩
        rw [HI7.out]
        refine ⟨?_, HS.out.trans hst, HC.out.blk (hst.kept w.heap.size HC.out.lt HVB.out), hst.ne HC.out.lt HVB.out⟩
        rw [allL_take l k ks a i HLT.out, ← List.append_assoc]; exact ho)
      have hcat : ¬ 9223372036854775807 < (bs a).size + (bs (47 :: encL ndT codeT (prt k ks i))).size := by
        have h1 := textL1_len _ (HPL.out i HLT.out)
        rw [show textL [prt k ks i] = 47 :: encL ndT codeT (prt k ks i) by simp [textL]] at h1
        have h2 := HAL.out
        rw [bs_size, bs_size]
        omega
      clear hI7
      have HP : Hid (∀ w', Below wr.heap.size wr w' → Calls Tryd.prog 42 #[.agg #[.int .i64 k, .bool n, .string g, .int .i64 e, .string t, .slice (some ⟨b, off, none⟩) l.length cap, .slice ko ks.length kc], .int .i64 (i : Int)] w' fun r w3 => r = .returned (.string (bs (prt k ks i))) ∧ Below w'.heap.size w' w3) := hid_intro (fun w' hb => partOf_any k n g e t l ks _ ko cap kc i w' (by have := HLT.out; have := HLEN.out; omega) (HTB.out w' (HBX.out w' hb)) (fun h6 => by
        obtain ⟨b2, o2, h1, h2, h3, h4⟩ := HKY.out w' (HBX.out w' hb) h6 i HLT.out
        exact ⟨b2, o2, h1, h3, by have := HBR.out; have := hb.size; omega, h4⟩))
      have HTX : Hid (∀ w' : World, Calls Tryd.prog 41 #[.slice (some ⟨w'.heap.size, 0, none⟩) 1 1] (w'.alloc (.cells #[.string (bs (prt k ks i))] 9)) fun r w3 => r = .returned (.string (bs (47 :: encL ndT codeT (prt k ks i)))) ∧ Below w'.heap.size w' w3) := hid_intro (fun w' => by
        have := text_1 (prt k ks i) w' (HPL.out i HLT.out)
        rw [show textL [prt k ks i] = 47 :: encL ndT codeT (prt k ks i) by simp [textL]] at this
        exact this)
      clear he7 hbB
      go_wp2_with fail
      go_region_held3 (fun w' => w'.cell? ⟨w.heap.size, 0, none⟩ = some (.int .i64 k) ∧ w'.cell? ⟨w.heap.size, 1, none⟩ = some (.bool n) ∧ w'.cell? ⟨w.heap.size, 2, none⟩ = some (.string g) ∧ w'.cell? ⟨w.heap.size, 3, none⟩ = some (.int .i64 e) ∧ w'.cell? ⟨w.heap.size, 4, none⟩ = some (.string t) ∧ w'.cell? ⟨w.heap.size, 5, none⟩ = some (.slice (some ⟨b, off, none⟩) l.length cap) ∧ w'.cell? ⟨w.heap.size, 6, none⟩ = some (.slice ko ks.length kc) ∧ w'.cell? ⟨b, off + i * 7, none⟩ = some (G i 0) ∧ w'.cell? ⟨b, off + i * 7 + 1, none⟩ = some (G i 1) ∧ w'.cell? ⟨b, off + i * 7 + 2, none⟩ = some (G i 2) ∧ w'.cell? ⟨b, off + i * 7 + 3, none⟩ = some (G i 3) ∧ w'.cell? ⟨b, off + i * 7 + 4, none⟩ = some (G i 4) ∧ w'.cell? ⟨b, off + i * 7 + 5, none⟩ = some (G i 5) ∧ w'.cell? ⟨b, off + i * 7 + 6, none⟩ = some (G i 6)) (first | (refine HCI.out _ v2 ?_; (repeat (first | exact h5 | refine HDR.out _ _ ?_))) | (refine HCW.out _ ?_; with_reducible repeat (first | exact Below.refl _ _ | refine bl_t ?_ hb4 | refine bl_t ?_ hb3 | refine bl_d ?_ | refine bl_a ?_ _)) | fail) (first | (go_at_call 42; refine (HP.out _ ?_).mono ?_; (with_reducible repeat (first | exact Below.refl _ _ | refine bl_d ?_)); rintro r w3 ⟨rfl, hb3⟩) | (go_at_call 41; refine (HTX.out _).mono ?_; rintro r w4 ⟨rfl, hb4⟩) | (go_at_call 23; refine (HII.out _ ?_).mono ?_; (with_reducible repeat (first | exact Below.refl _ _ | refine bl_t ?_ hb4 | refine bl_t ?_ hb3 | refine bl_d ?_)); rintro r w5 ⟨v2, rfl, h5⟩) | fail)
      all_goals
        have HFI := hid_intro h5
        clear h5
        go_wp2_with fail
        go_roundg (l.length - (i + 1))
        case measure => have := HLT.out; omega
        case rel =>
          refine ⟨i + 1, v2, rfl, rfl, by simp, HLT.out, (HFN.out _ v2 ?_).1, (HFN.out _ v2 ?_).2.1, (HFN.out _ v2 ?_).2.2.1, (HFN.out _ _ HFI.out).2.2.2⟩
          all_goals (repeat (first | exact HFI.out | refine HDR.out _ _ ?_))
    · have HIE : Hid (i = l.length) := hid_intro (by have := HIL.out; omega)
      go_wp2_with fail
      rw [HPP.out]
      refine ⟨vi, rfl, ?_, HS.out⟩
      have := HO.out
      rw [HIE.out, List.take_length, List.append_assoc, List.singleton_append] at this
      rw [allJ]
      exact this
end Go.Proofs.YtkbkedknoahhgaaDoor
