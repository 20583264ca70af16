/-
  (*ref5.P).keyed. Conditions: at most 2^20 keys, a key of at most 2^20 bytes.
  (*ref5.P).put and (*ref5.P).close. Conditions: at most 2^20 values.
-/
import Derived.Test.YtfoehebnmommfaaGreatDoorJoined36
import Derived.Deep.RegionHeld3
import Derived.BigRegion
namespace Go.Proofs.YtfoehebnmommfaaGreatDoor.R5
open Go.RowKit Go.Maps
attribute [local go_sem] setCell_drewN alloc_drewN

theorem key_done [Ex] {W : World} {lm : Nat → Int} {rb N : Nat} {p : PR} {ob n cap : Nat} {hs0 : List HC} {h : HC} {f : Nat → Value} {w D : World} (hJ : JR W lm rb N p (.slice (some ⟨ob, 0, none⟩) n cap) (hs0 ++ [h]) f w) {k : ByteArray} (hk : k.size ≤ 1048576) {kv : Value}
    (hg : w.grownBy D h.kv.ownBlock) (ho : D.ownsRow (rb + 1) 9 1 kv (h.ks.length + 1) (h.ks.map Value.string ++ [.string k])) (h4 : kv.ownBlock = h.kv.ownBlock ∨ ∃ b, kv.ownBlock = some b ∧ w.heap.size ≤ b) (hc : ∀ j u, h.cells[j]? = some u → D.cell? ⟨ob, hs0.length * 7 + j, none⟩ = some u) :
    JR W lm rb (N + 1) { p with hs := p.hs.dropLast ++ [((lastP p).1, (lastP p).2.1, (lastP p).2.2 ++ [k])], nx := 4 } (.slice (some ⟨ob, 0, none⟩) n cap) (hs0 ++ [hkl h kv k]) f ((set7r D ob (hs0.length * 7) (.int .i64 h.k) (.bool false) (.string ⟨#[]⟩) (.int .i64 0) (.string ⟨#[]⟩) h.lv kv).setCell ⟨rb, 6, none⟩ (.int .i64 4)) ∧
    Mv rb (.slice (some ⟨ob, 0, none⟩) n cap) (hs0 ++ [h]) w (.slice (some ⟨ob, 0, none⟩) n cap) (hs0 ++ [hkl h kv k]) ((set7r D ob (hs0.length * 7) (.int .i64 h.k) (.bool false) (.string ⟨#[]⟩) (.int .i64 0) (.string ⟨#[]⟩) h.lv kv).setCell ⟨rb, 6, none⟩ (.int .i64 4)) := by
  have hc0 : D.cell? ⟨ob, hs0.length * 7, none⟩ = some (.int .i64 h.k) := hc 0 _ rfl
  rw [row_same6 hc0 (hc 1 _ rfl) (hc 2 _ rfl) (hc 3 _ rfl) (hc 4 _ rfl) (hc 5 _ rfl)]
  obtain ⟨s1, s2⟩ := hJ.st.addKey hk ho hg h4
  have hn := (hJ.n2 h (by simp)).2
  have j1 := ((hJ.more (Nat.le_succ N)).addKey s1 s2 (by omega)).nx 4
  exact ⟨j1, s2.mv.trans (Mv.rb ((But.refl _ _).setr _))⟩
theorem inK_succ {s : ByteArray} {ks : List ByteArray} {i : Nat} (h : i < ks.length) (hne : ks[i] ≠ s) (h0 : inK s (ks.take i) = false) : inK s (ks.take (i + 1)) = false := by
  unfold inK at *
  rw [List.take_succ_eq_append_getElem h, List.any_append, h0]
  simp [hne]
theorem inK_hit {s : ByteArray} {ks : List ByteArray} {i : Nat} (h : i < ks.length) (he : ks[i] = s) : inK s ks = true := by
  unfold inK
  rw [List.any_eq_true]
  exact ⟨ks[i], List.getElem_mem h, by simp [he]⟩
set_option maxRecDepth 100000 in
set_option maxHeartbeats 3200000 in
theorem keyed_any [Ex] {W : World} {lm : Nat → Int} {rb N : Nat} {p : PR} {ob n cap : Nat} {hs0 : List HC} {h : HC} {f : Nat → Value} {w : World} (hJ : JR W lm rb N p (.slice (some ⟨ob, 0, none⟩) n cap) (hs0 ++ [h]) f w) (hN : N ≤ 1048576) (kd fr te : Int) (s : ByteArray) (hs : s.size ≤ 1048576) :
    Calls Tryz.prog 40 #[.pointer (some ⟨rb, 0, none⟩), .agg #[.int .i64 kd, .string s, .int .i64 fr, .int .i64 te]] w fun r w' =>
      (inK s h.ks = true ∧ r = .returned (.int .i64 te) ∧ Below w.heap.size w w') ∨ (inK s h.ks = false ∧ r = .returned (.int .i64 0) ∧ ∃ kv, JR W lm rb (N + 1) { p with hs := p.hs.dropLast ++ [((lastP p).1, (lastP p).2.1, (lastP p).2.2 ++ [s])], nx := 4 } (.slice (some ⟨ob, 0, none⟩) n cap) (hs0 ++ [hkl h kv s]) f w' ∧ Mv rb (.slice (some ⟨ob, 0, none⟩) n cap) (hs0 ++ [h]) w (.slice (some ⟨ob, 0, none⟩) n cap) (hs0 ++ [hkl h kv s]) w') := by
  obtain ⟨P, hP⟩ : ∃ P : Ending → World → Prop, P = fun r w' => (inK s h.ks = true ∧ r = .returned (.int .i64 te) ∧ Below w.heap.size w w') ∨ (inK s h.ks = false ∧ r = .returned (.int .i64 0) ∧ ∃ kv, JR W lm rb (N + 1) { p with hs := p.hs.dropLast ++ [((lastP p).1, (lastP p).2.1, (lastP p).2.2 ++ [s])], nx := 4 } (.slice (some ⟨ob, 0, none⟩) n cap) (hs0 ++ [hkl h kv s]) f w' ∧ Mv rb (.slice (some ⟨ob, 0, none⟩) n cap) (hs0 ++ [h]) w (.slice (some ⟨ob, 0, none⟩) n cap) (hs0 ++ [hkl h kv s]) w') := ⟨_, rfl⟩
  rw [← hP]
  have HP := hid_intro hP
  have HJ := hid_intro hJ
  have HS := hid_intro hs
  obtain ⟨ao', cap', e', hc1, hc2⟩ := own_shape hJ.st.row
  injection e' with e1 e2 e3
  subst e1 e3
  rw [List.length_append, List.length_singleton] at e2 hc1
  subst e2
  have hh := hJ.st.ho h (by simp)
  obtain ⟨la, lc, el, _, _⟩ := own_shape hh.row
  obtain ⟨ka, kc, ek, hkc1, hkc2⟩ := own_shape hh.krow
  have HEL := hid_intro el
  have HEK := hid_intro ek
  have HN : Hid (hs0.length ≤ 1048576 ∧ h.ks.length ≤ 1048576) := hid_intro ⟨by have h1 := hJ.n1; rw [List.length_append] at h1; simp at h1; omega, Nat.le_trans (hJ.n2 h (by simp)).2 hN⟩
  obtain ⟨i0, hi, hz0, hz1, hz2⟩ := info_parts infoStr
  obtain ⟨A, hA⟩ : ∃ A, w.alloc (.cells #[.int .i64 kd, .string s, .int .i64 fr, .int .i64 te] 50) = A := ⟨_, rfl⟩
  obtain ⟨B, hB⟩ : ∃ B, A.alloc (.cells #[.int .i64 h.k, .bool false, .string ⟨#[]⟩, .int .i64 0, .string ⟨#[]⟩, .slice la h.vs.length lc, .slice ka h.ks.length kc] 31) = B := ⟨_, rfl⟩
  have hBA : Below w.heap.size w A := hA ▸ vb_a (Below.refl _ _) _
  have hsA : w.heap.size + 1 = A.heap.size := by rw [← hA]; simp
  have hsB : A.heap.size + 1 = B.heap.size := by rw [← hB]; simp
  have hBB : Below w.heap.size w B := vb_t hBA (hB ▸ vb_a (Below.refl _ _) _)
  have kV : Bj A w.heap.size #[.int .i64 kd, .string s, .int .i64 fr, .int .i64 te] := hA ▸ Bj.new _ _ _
  have kVB : Bj B w.heap.size #[.int .i64 kd, .string s, .int .i64 fr, .int .i64 te] := kV.bel (hB ▸ vb_a (Below.refl _ _) _)
  have kX : Bj B A.heap.size #[.int .i64 h.k, .bool false, .string ⟨#[]⟩, .int .i64 0, .string ⟨#[]⟩, .slice la h.vs.length lc, .slice ka h.ks.length kc] := hB ▸ Bj.new _ _ _
  have HVB := hid_intro kVB
  have HXB := hid_intro kX
  have hJA := hJ.belw hBA
  have q5 := hJA.rd.c 5 (by omega) (u := .slice (some ⟨ob, 0, none⟩) (hs0.length + 1) cap) rfl
  have o0 : A.cell? ⟨ob, hs0.length * 7, none⟩ = some (.int .i64 h.k) := hcell_at hJA.st 0 _ rfl
  have o1 : A.cell? ⟨ob, hs0.length * 7 + 1, none⟩ = some (.bool false) := hcell_at hJA.st 1 _ rfl
  have o2 : A.cell? ⟨ob, hs0.length * 7 + 2, none⟩ = some (.string ⟨#[]⟩) := hcell_at hJA.st 2 _ rfl
  have o3 : A.cell? ⟨ob, hs0.length * 7 + 3, none⟩ = some (.int .i64 0) := hcell_at hJA.st 3 _ rfl
  have o4 : A.cell? ⟨ob, hs0.length * 7 + 4, none⟩ = some (.string ⟨#[]⟩) := hcell_at hJA.st 4 _ rfl
  have o5 : A.cell? ⟨ob, hs0.length * 7 + 5, none⟩ = some (.slice la h.vs.length lc) := hcell_at hJA.st 5 _ (by rw [← el]; rfl)
  have o6 : A.cell? ⟨ob, hs0.length * 7 + 6, none⟩ = some (.slice ka h.ks.length kc) := hcell_at hJA.st 6 _ (by rw [← ek]; rfl)
  have HOW : Hid (∀ w', Below w.heap.size w w' → w'.ownsRow (rb + 1) 9 1 (.slice ka h.ks.length kc) h.ks.length (h.ks.map Value.string)) := hid_intro (fun w' hb => by rw [← ek]; exact ((hJ.st.bel hb).ho h (by simp)).krow)
  have HKC : Hid (∀ w' (i : Nat) (hi : i < h.ks.length), Below w.heap.size w w' → ∃ kg, ka = some ⟨kg, 0, none⟩ ∧ w'.cell? ⟨kg, i, none⟩ = some (.string h.ks[i])) := hid_intro (fun w' i hi hb => by
    have hr := HOW.out w' hb
    rcases hr.2 with ⟨_, hz⟩ | ⟨g, cap2, cur, e3, _⟩
    · omega
    · injection e3 with e3 _ e5
      subst e3
      exact ⟨g, rfl, own_cell hr i (.string h.ks[i]) (by simp [hi])⟩)
  have hnI : (hs0.length : Int) ≤ 1048576 := by have := HN.out; omega
  have hkI : (h.ks.length : Int) ≤ 1048576 := by have := HN.out; omega
  have hw : wrap64 ((hs0.length : Int) + 1 - 1) = (hs0.length : Int) := by unfold wrap64; omega
  have hwd : ((hs0.length : Int) + 1 - 1) = (hs0.length : Int) := by omega
  have HRB : Hid (rb < w.heap.size) := hid_intro hJ.rd.lt
  have HSS : Hid (w.heap.size ≤ A.heap.size ∧ A.heap.size < B.heap.size) := hid_intro ⟨by omega, by omega⟩
  have HBB := hid_intro hBB
  clear hP hJ hs hh el ek hkc1 hkc2 hJA hBA hsA hsB hBB kV kVB kX hN
  go_enter Tryz.func40, Tryz.ntmps40
  go_wp2_with fail
  go_loopw [7] (fun tv wr => ∃ i : Nat, i ≤ h.ks.length ∧ tv = .int .i64 i ∧ Hid (inK s (h.ks.take i) = false) ∧ Hid (Below B.heap.size B wr)) (fun tv _ => h.ks.length - (intOf tv).toNat)
  case atStart => exact ⟨0, Nat.zero_le _, rfl, hid_intro rfl, hid_intro (Below.refl _ _)⟩
  case round =>
    obtain ⟨i, hil, rfl, HI, HW⟩ := hrel
    have x6 := (HXB.out.bel HW.out).cell 6
    have t1 := (HVB.out.bel HW.out).cell 1
    have t3 := (HVB.out.bel HW.out).cell 3
    simp only [List.getElem?_toArray, List.getElem?_cons_zero, List.getElem?_cons_succ] at x6 t1 t3
    clear o0 o1 o2 o3 o4 o5 o6 q5
    by_cases hlt : i < h.ks.length
    · have hI : (i : Int) < (h.ks.length : Int) := by omega
      obtain ⟨kg, rfl, kcell⟩ := HKC.out wr i hlt (vb_t HBB.out HW.out)
      by_cases hy : h.ks[i] = s
      · have HIN : Hid (inK s h.ks = true) := hid_intro (inK_hit hlt hy)
        rw [hy] at kcell
        have heq : (s.toList == s.toList) = true := by simp
        clear HI HOW HKC
        go_wp2_with fail
        go_quiet (fail)
        go_wp2
        rw [HP.out]
        exact Or.inl ⟨HIN.out, rfl, bl_n (vb_t HBB.out HW.out) _⟩
      · have HI2 := hid_intro (inK_succ hlt hy HI.out)
        have heq : (h.ks[i].toList == s.toList) = false := by rw [jeq_bytes]; simp [hy]
        clear HI HOW HKC hy
        generalize h.ks[i] = y at *
        go_wp2_with fail
        go_quiet (fail)
        go_wp2
        go_roundw
        case rel => exact ⟨i + 1, by omega, by go_num, HI2, hid_intro (bl_n HW.out _)⟩
        case measure => simp [intOf]; omega
    · have hI : ¬ (i : Int) < (h.ks.length : Int) := by omega
      have HIN : Hid (inK s h.ks = false) := hid_intro (by have := HI.out; rwa [List.take_of_length_le (by omega)] at this)
      obtain ⟨C, hC⟩ : ∃ C, wr.alloc (.cells #[.string s] 9) = C := ⟨_, rfl⟩
      have hBr : Below w.heap.size w wr := vb_t HBB.out HW.out
      have HBC : Hid (Below w.heap.size w C) := hid_intro (vb_t hBr (hC ▸ vb_a (Below.refl _ _) _))
      have HXC := hid_intro ((HXB.out.bel HW.out).bel (w' := C) (hC ▸ vb_a (Below.refl _ _) _))
      have HK1 : Hid (∀ j u, [Value.string s][j]? = some u → C.cell? ((⟨wr.heap.size, 0, none⟩ : Addr).add j) = some u) := hid_intro (hC ▸ cell_one_new _ _ _)
      have HSZ : Hid (rb + 1 ≤ C.heap.size) := hid_intro (Nat.le_trans HRB.out HBC.out.size)
      have HSC : Hid (A.heap.size < C.heap.size) := hid_intro (by have h1 := HSS.out.2; have h2 := HW.out.size; have : wr.heap.size ≤ C.heap.size := by rw [← hC]; simp
                                                                  omega)
      clear HKC hBr
      go_wp2_with (at_builtin; refine wpList_append_own_at _ rfl _ _ 29 rfl (rb + 1) 9 i0 _ 1 16 Tryz.underlying29 hi hz0 hz1 hz2 rfl (by decide) _ h.ks.length (h.ks.map Value.string) rfl (HOW.out _ HBC.out) ⟨wr.heap.size, 0, none⟩ 1 1 [.string s] rfl rfl HK1.out (fun u hu => by (obtain rfl : u = .string s := by simpa using hu); rfl) (by have := HN.out; unfold maxLen; omega) (by have := HN.out; omega) HSZ.out ?_)
      intro kv' w9 ho9 hg9 _ h49
      rw [← HEK.out] at hg9 h49
      obtain ⟨oa, oc, eo, _, _⟩ := own_shape ho9
      subst eo
      obtain ⟨D, hD⟩ : ∃ D, w9.setCell ⟨A.heap.size, 6, none⟩ (.slice oa (h.ks.length + 1) oc) = D := ⟨_, rfl⟩
      obtain ⟨f1, f2, f3, f4, f5, f6, f7, f8⟩ := app_facts HJ.out.st HRB.out HBC.out HSS.out.1 HSC.out (fun b hb => mem_own_k hb) ho9 hg9 h49 HXC.out D hD
      have HFIN := hid_intro (done_drew (key_done HJ.out HS.out f1 f2 f3 f5))
      rw [HEL.out] at HFIN
      have hRD : Rd D rb (RF lm (.slice (some ⟨ob, 0, none⟩) (hs0.length + 1) cap) p.nx f p.dp p.ps) := HJ.out.rd.keep f7
      have r5 := hRD.c 5 (by omega) (u := .slice (some ⟨ob, 0, none⟩) (hs0.length + 1) cap) rfl
      have r6 := hRD.c 6 (by omega) (u := .int .i64 (p.nx : Int)) rfl
      have rz6 := (hRD 6 (by omega)).2
      have u0 : D.cell? ⟨ob, hs0.length * 7, none⟩ = some (.int .i64 h.k) := f5 0 _ rfl
      have u1 : D.cell? ⟨ob, hs0.length * 7 + 1, none⟩ = some (.bool false) := f5 1 _ rfl
      have u2 : D.cell? ⟨ob, hs0.length * 7 + 2, none⟩ = some (.string ⟨#[]⟩) := f5 2 _ rfl
      have u3 : D.cell? ⟨ob, hs0.length * 7 + 3, none⟩ = some (.int .i64 0) := f5 3 _ rfl
      have u4 : D.cell? ⟨ob, hs0.length * 7 + 4, none⟩ = some (.string ⟨#[]⟩) := f5 4 _ rfl
      have u5 : D.cell? ⟨ob, hs0.length * 7 + 5, none⟩ = some (.slice la h.vs.length lc) := f5 5 _ (by rw [← HEL.out]; rfl)
      have u6 : D.cell? ⟨ob, hs0.length * 7 + 6, none⟩ = some (.slice ka h.ks.length kc) := f5 6 _ (by rw [← HEK.out]; rfl)
      have fz0 := f6 (hs0.length * 7)
      have fz1 := f6 (hs0.length * 7 + 1)
      have fz2 := f6 (hs0.length * 7 + 2)
      have fz3 := f6 (hs0.length * 7 + 3)
      have fz4 := f6 (hs0.length * 7 + 4)
      have fz5 := f6 (hs0.length * 7 + 5)
      have fz6 := f6 (hs0.length * 7 + 6)
      obtain ⟨d0, d1, d2, d3, d4, d5, d6⟩ := (show Bj D A.heap.size #[.int .i64 h.k, .bool false, .string ⟨#[]⟩, .int .i64 0, .string ⟨#[]⟩, .slice la h.vs.length lc, .slice oa (h.ks.length + 1) oc] from f4).c7
      have hro : rb ≠ ob := fun e => by have := (HJ.out.st.lt ob (mem_mutsO (by simp [Value.ownBlock]))).1; omega
      have w6 : w9.cell? ⟨A.heap.size, 6, none⟩ = some (.slice ka h.ks.length kc) := f8.cell 6
      have wz6 := f8.frz 6
      clear ho9 hg9 h49 f1 f2 f3 f4 f5 f6 f7 f8 hRD x6 t1 t3
      go_wp2_with fail
      go_region
      all_goals
        go_wp2_with fail
        rw [HP.out]
        exact Or.inr ⟨HIN.out, rfl, _, HFIN.out⟩
end Go.Proofs.YtfoehebnmommfaaGreatDoor.R5

namespace Go.Proofs.YtfoehebnmommfaaGreatDoor.R5
open Go.RowKit Go.Maps
attribute [local go_sem] setCell_drewN alloc_drewN

theorem own_at {w : World} {B : Nat} {e : TypeId} {size : Nat} {v : Value} {n : Nat} {xs : List Value} (h : w.ownsRow B e size v n xs) (hn : 0 < n) : ∃ g cap, v = .slice (some ⟨g, 0, none⟩) n cap := by
 rcases h.2 with ⟨_, hz⟩ | ⟨g, cap, cur, e3, _⟩
 ·omega
 ·exact ⟨g, cap, e3⟩
theorem seven_cells {g : Nat → Value} {a0 a1 a2 a3 a4 a5 a6 : Value} (h : seven g = [a0, a1, a2, a3, a4, a5, a6]) : g 0 = a0 ∧ g 1 = a1 ∧ g 2 = a2 ∧ g 3 = a3 ∧ g 4 = a4 ∧ g 5 = a5 ∧ g 6 = a6 := by
 unfold seven at h
 injection h with h0 h
 injection h with h1 h
 injection h with h2 h
 injection h with h3 h
 injection h with h4 h
 injection h with h5 h
 injection h with h6 h
 exact ⟨h0, h1, h2, h3, h4, h5, h6⟩
theorem put_any [Ex] {W : World} {lm : Nat → Int} {rb N : Nat} {p : PR} {ov : Value} {hs : List HC} {f : Nat → Value} {w : World} (hJ : JR W lm rb N p ov hs f w) (hN : N ≤ 1048576) {x : JV} {g : Nat → Value} (hx : VI w (mX rb ov hs) x g)
  (k e : Int) (ng : Bool) (d t : ByteArray) (a1 a2 : Option Addr) (m1 m2 c1 c2 : Nat) (hg7 : seven g = [.int .i64 k, .bool ng, .string d, .int .i64 e, .string t, .slice a1 m1 c1, .slice a2 m2 c2]) :
  Calls Tryz.prog 62 #[.pointer (some ⟨rb, 0, none⟩), .agg #[.int .i64 k, .bool ng, .string d, .int .i64 e, .string t, .slice a1 m1 c1, .slice a2 m2 c2]] w fun r w' => r = .returned (.tuple #[]) ∧ ∃ ov' hs' f', JR W lm rb (N + 1) (putR x p) ov' hs' f' w' ∧ Mv rb ov hs w ov' hs' w' := by
 rcases List.eq_nil_or_concat hs with rfl | ⟨hs0, h, rfl⟩
 ·obtain ⟨g0, g1, g2, g3, g4, g5, g6⟩ := seven_cells hg7
  refine (put_none hJ hx k e ng d t a1 a2 m1 m2 c1 c2 g0 g1 g2 g3 g4 g5 g6).mono fun r w' hr => ⟨hr.1, ov, [], g, ?_, hr.2.2⟩
  have e : putR x p = { p with v := x, nx := 6 } := by unfold putR; rw [if_pos (by rw [hJ.eq]; rfl)]
  rw [e]
  exact hr.2.1.more (Nat.le_succ N)
 ·rw [List.concat_eq_append] at hJ hx ⊢
  obtain ⟨ob, cap, rfl⟩ := own_at hJ.st.row (by simp)
  exact (put_some hJ hN hx k e ng d t a1 a2 m1 m2 c1 c2 hg7).mono fun r w' hr => ⟨hr.1, _, _, _, hr.2.choose_spec.1, hr.2.choose_spec.2⟩
theorem JR.closed [Ex] {W : World} {lm : Nat → Int} {rb N : Nat} {p : PR} {ob n cap : Nat} {hs0 : List HC} {h : HC} {f : Nat → Value} {w w' D : World} (hJ : JR W lm rb N p (.slice (some ⟨ob, 0, none⟩) n cap) (hs0 ++ [h]) f w) (hb : Below w.heap.size w w') (hD : w'.setCell ⟨rb, 5, none⟩ (.slice (some ⟨ob, 0, none⟩) hs0.length cap) = D) :
  JR W lm rb N { p with hs := p.hs.dropLast } (.slice (some ⟨ob, 0, none⟩) hs0.length cap) hs0 f D ∧ VI D (mX rb (.slice (some ⟨ob, 0, none⟩) hs0.length cap) hs0) (hval h) (hcel h) ∧ Mv rb (.slice (some ⟨ob, 0, none⟩) n cap) (hs0 ++ [h]) w (.slice (some ⟨ob, 0, none⟩) hs0.length cap) hs0 D := by
 obtain ⟨a1, a2, a3⟩ := (hJ.st.bel hb).closed
 have hbut : But (· = rb) w' D := hD ▸ (But.refl _ _).setr _
 have hm : Mv rb (.slice (some ⟨ob, 0, none⟩) n cap) (hs0 ++ [h]) w (.slice (some ⟨ob, 0, none⟩) hs0.length cap) hs0 D := (Mv.bel (Mv.refl _ _ _ _) hb).trans (a3.trans (Mv.rb hbut))
 refine ⟨⟨?_, a1.rb hbut, ?_, hm.vi hJ.vi, hJ.bel.trans ((hm.below hJ.st hJ.rd.lt).mono hJ.lo), hJ.lo, ?_, fun y hy => hJ.n2 y (List.mem_append_left _ hy), hJ.n3⟩, (Mv.rb hbut).vi a2, hm⟩
 ·have := (hJ.rd.below hb).set 5 (.slice (some ⟨ob, 0, none⟩) hs0.length cap)
  rw [RF_o, hD] at this
  exact this
 ·show p.hs.dropLast = _
  rw [hJ.eq]; simp
 ·have := hJ.n1; simp at this; omega
set_option maxRecDepth 100000 in
set_option maxHeartbeats 3200000 in
theorem close_any [Ex] {W : World} {lm : Nat → Int} {rb N : Nat} {p : PR} {ob n cap : Nat} {hs0 : List HC} {h : HC} {f : Nat → Value} {w : World} (hJ : JR W lm rb N p (.slice (some ⟨ob, 0, none⟩) n cap) (hs0 ++ [h]) f w) (hN : N ≤ 1048576) :
  Calls Tryz.prog 39 #[.pointer (some ⟨rb, 0, none⟩)] w fun r w' => r = .returned (.tuple #[]) ∧ ∃ ov' hs' f', JR W lm rb (N + 1) (closeR p) ov' hs' f' w' ∧ Mv rb (.slice (some ⟨ob, 0, none⟩) n cap) (hs0 ++ [h]) w ov' hs' w' := by
 obtain ⟨P, hP⟩ : ∃ P : Ending → World → Prop, P = fun r w' => r = .returned (.tuple #[]) ∧ ∃ ov' hs' f', JR W lm rb (N + 1) (closeR p) ov' hs' f' w' ∧ Mv rb (.slice (some ⟨ob, 0, none⟩) n cap) (hs0 ++ [h]) w ov' hs' w' := ⟨_, rfl⟩
 rw [← hP]
 have HP := hid_intro hP
 obtain ⟨ao', cap', e', hc1, hc2⟩ := own_shape hJ.st.row
 injection e' with e1 e2 e3
 subst e1 e3
 rw [List.length_append, List.length_singleton] at e2 hc1
 subst e2
 have hh := hJ.st.ho h (by simp)
 obtain ⟨la, lc, el, _, _⟩ := own_shape hh.row
 obtain ⟨ka, kc, ek, _, _⟩ := own_shape hh.krow
 have hnn : hs0.length ≤ 1048576 := by have h1 := hJ.n1; rw [List.length_append] at h1; simp at h1; omega
 obtain ⟨B, hB⟩ : ∃ B, w.alloc (.cells #[.int .i64 h.k, .bool false, .string ⟨#[]⟩, .int .i64 0, .string ⟨#[]⟩, .slice la h.vs.length lc, .slice ka h.ks.length kc] 31) = B := ⟨_, rfl⟩
 obtain ⟨D, hD⟩ : ∃ D, B.setCell ⟨rb, 5, none⟩ (.slice (some ⟨ob, 0, none⟩) hs0.length cap) = D := ⟨_, rfl⟩
 have hBB : Below w.heap.size w B := hB ▸ vb_a (Below.refl _ _) _
 have hrb := hJ.rd.lt
 have kX : Bj B w.heap.size #[.int .i64 h.k, .bool false, .string ⟨#[]⟩, .int .i64 0, .string ⟨#[]⟩, .slice la h.vs.length lc, .slice ka h.ks.length kc] := hB ▸ Bj.new _ _ _
 have kXD : Bj D w.heap.size #[.int .i64 h.k, .bool false, .string ⟨#[]⟩, .int .i64 0, .string ⟨#[]⟩, .slice la h.vs.length lc, .slice ka h.ks.length kc] := hD ▸ kX.away (by simp; omega)
 have q5 := hJ.rd.c 5 (by omega) (u := .slice (some ⟨ob, 0, none⟩) (hs0.length + 1) cap) rfl
 have o0 : w.cell? ⟨ob, hs0.length * 7, none⟩ = some (.int .i64 h.k) := hcell_at hJ.st 0 _ rfl
 have o1 : w.cell? ⟨ob, hs0.length * 7 + 1, none⟩ = some (.bool false) := hcell_at hJ.st 1 _ rfl
 have o2 : w.cell? ⟨ob, hs0.length * 7 + 2, none⟩ = some (.string ⟨#[]⟩) := hcell_at hJ.st 2 _ rfl
 have o3 : w.cell? ⟨ob, hs0.length * 7 + 3, none⟩ = some (.int .i64 0) := hcell_at hJ.st 3 _ rfl
 have o4 : w.cell? ⟨ob, hs0.length * 7 + 4, none⟩ = some (.string ⟨#[]⟩) := hcell_at hJ.st 4 _ rfl
 have o5 : w.cell? ⟨ob, hs0.length * 7 + 5, none⟩ = some (.slice la h.vs.length lc) := hcell_at hJ.st 5 _ (by rw [← el]; rfl)
 have o6 : w.cell? ⟨ob, hs0.length * 7 + 6, none⟩ = some (.slice ka h.ks.length kc) := hcell_at hJ.st 6 _ (by rw [← ek]; rfl)
 have hRB := hJ.rd.below hBB
 have b5 := hRB.c 5 (by omega) (u := .slice (some ⟨ob, 0, none⟩) (hs0.length + 1) cap) rfl
 have bz5 := (hRB 5 (by omega)).2
 obtain ⟨d0, d1, d2, d3, d4, d5, d6⟩ := kXD.c7
 obtain ⟨j1, j2, j3⟩ := hJ.closed hBB hD
 have HPUT := hid_intro ((put_any j1 hN j2 h.k 0 false ⟨#[]⟩ ⟨#[]⟩ la ka h.vs.length h.ks.length lc kc (by unfold seven hcel; simp [el, ek])).mono fun r w' hr => (⟨hr.1, by
  obtain ⟨ov', hs', f', p1, p2⟩ := hr.2
  refine ⟨ov', hs', f', ?_, j3.trans p2⟩
  have e : closeR p = putR (hval h) { p with hs := p.hs.dropLast } := by unfold closeR; rw [lastP_of hJ]; rfl
  rw [e]; exact p1⟩ : r = .returned (.tuple #[]) ∧ ∃ ov' hs' f', JR W lm rb (N + 1) (closeR p) ov' hs' f' w' ∧ Mv rb (.slice (some ⟨ob, 0, none⟩) (hs0.length + 1) cap) (hs0 ++ [h]) w ov' hs' w'))
 have hnI : (hs0.length : Int) ≤ 1048576 := by omega
 have hw : wrap64 ((hs0.length : Int) + 1 - 1) = (hs0.length : Int) := by unfold wrap64; omega
 have hwd : ((hs0.length : Int) + 1 - 1) = (hs0.length : Int) := by omega
 have hcI : (hs0.length : Int) ≤ (cap : Int) := by omega
 clear hP hJ hh el ek hBB kX kXD hRB j1 j2 j3 hN hnn hrb
 go_enter Tryz.func39, Tryz.ntmps39
 go_wp2_with (go_at_call 62; refine HPUT.out.mono ?_; rintro r w1 ⟨rfl, hw1⟩)
 refine bodyPost_ret (v := .tuple #[]) (by simp [results, Tryz.results39, go_sem]) rfl ?_
 rw [HP.out]
 exact ⟨rfl, hw1⟩
end Go.Proofs.YtfoehebnmommfaaGreatDoor.R5
