/-
  The closure that follows a state. Conditions: there is room.
  The closure that follows a state, whole. Conditions: there is room.
  A closure that is called, at the operation. No condition.
  The function that finds the states at a place. Conditions: there is room.
-/
import Derived.Test.YtoinlmfodmgohaaGreatDoorJoined6
import Derived.Shelf.Abstract
import Derived.RegionTactic
import Derived.BigRegion
namespace Go.Proofs.YtoinlmfodmgohaaGreatDoor
open Go.RowKit Go.Maps
attribute [local go_sem] setCell_drewN alloc_drewN

theorem SI.cells {w : World} {X : Nat → Prop} {L : List ST} {v : Value} (h : SI w X L v) {s : Int} (hs : InL L s) : ∃ b off cap g, v = .slice (some ⟨b, off, none⟩) L.length cap ∧ L.length ≤ cap ∧ cap ≤ maxLen ∧ ¬ X b ∧ b < w.heap.size ∧ (w.cell? ⟨b, off + s.toNat * 4, none⟩ = some (.int .i64 (sx L s).k) ∧ w.cell? ⟨b, off + s.toNat * 4 + 1, none⟩ = some g ∧ w.cell? ⟨b, off + s.toNat * 4 + 2, none⟩ = some (.int .i64 (sx L s).a) ∧ w.cell? ⟨b, off + s.toNat * 4 + 3, none⟩ = some (.int .i64 (sx L s).b)) ∧ RI w X (sx L s).r g := by
  unfold InL at hs
  obtain ⟨ao, cap, rfl, h1, h2, h3, h4⟩ := h
  rcases h4 with rfl | ⟨b, off, G, rfl, h6, h7⟩
  · simp at hs; omega
  · have hi : s.toNat < L.length := by omega
    have := h7 s.toNat hi
    exact ⟨b, off, cap, G s.toNat, rfl, h1, h2, h6, World.block_lt_of_cell? w _ this.1.1, this.1, this.2⟩
theorem inl_i64 {L : List ST} (hl : L.length ≤ 1048576) {s : Int} (h : InL L s) : I64 s := by unfold InL at h; exact ⟨by omega, by omega⟩

set_option maxRecDepth 100000 in
set_option maxHeartbeats 3200000 in
theorem follow_in {X : Nat → Prop} {cb pb wb hb lb tb fb mb B : Nat} {L : List ST} {t : List Int} {p : Nat} (hl : L.length ≤ 1048576) (hp : p ≤ 1048576) (s deep : Int) (H W : List Int) (w : World) (hs : InL L s) (hF : FS w X ⟨cb, pb, wb, hb, lb, tb, fb, mb, B⟩ L t p H W) (hin : s ∈ H) :
    Calls Tryz.prog 57 #[.int .i64 s, .int .i64 deep, .pointer (some ⟨cb, 0, none⟩), .pointer (some ⟨pb, 0, none⟩), .pointer (some ⟨wb, 0, none⟩), .pointer (some ⟨hb, 0, none⟩), .pointer (some ⟨lb, 0, none⟩), .pointer (some ⟨tb, 0, none⟩), .pointer (some ⟨fb, 0, none⟩)] w fun en w' => en = .returned (.tuple #[]) ∧ w' = w := by
  obtain ⟨fx, kp, ro, ⟨cnt, c, hcm, hcn, hcx⟩⟩ := hF
  have hcs : c s = (p : Int) + 1 := (hcx s hs).2.2 hin
  have HS := hid_intro (inl_i64 hl hs)
  have HCM := hid_intro hcm
  have HCS := hid_intro hcs
  obtain ⟨P, hP⟩ : ∃ P : Ending → World → Prop, P = fun en w' => en = .returned (.tuple #[]) ∧ w' = w := ⟨_, rfl⟩
  rw [← hP]
  have HP := hid_intro hP
  have c0 := fx.kc.q1
  have c1 := kp.q1
  have hpI : (p : Int) ≤ 1048576 := by omega
  dsimp only at c0 c1
  clear hP fx kp ro hcm hcn hcx hcs hl hp hs hin
  go_enter Tryz.func57, Tryz.ntmps57
  go_wp2_with (at_lookup; refine wpList_look_cm rfl _ _ rfl mb cnt c rfl HCM.out s rfl HS.out ?_; rw [HCS.out])
  go_end0
  rw [HP.out]
  exact ⟨rfl, rfl⟩
set_option maxRecDepth 100000 in
set_option maxHeartbeats 3200000 in
theorem follow_end {X : Nat → Prop} {cb pb wb hb lb tb fb mb B : Nat} {L : List ST} {t : List Int} {p : Nat} (hl : L.length ≤ 1048576) (hp : p ≤ 1048576) (s : Int) (H W : List Int) (w : World) (hs : InL L s) (hF : FS w X ⟨cb, pb, wb, hb, lb, tb, fb, mb, B⟩ L t p H W) (hin : s ∉ H) (hW : W.length ≤ 1073741824) :
    Calls Tryz.prog 57 #[.int .i64 s, .int .i64 1000, .pointer (some ⟨cb, 0, none⟩), .pointer (some ⟨pb, 0, none⟩), .pointer (some ⟨wb, 0, none⟩), .pointer (some ⟨hb, 0, none⟩), .pointer (some ⟨lb, 0, none⟩), .pointer (some ⟨tb, 0, none⟩), .pointer (some ⟨fb, 0, none⟩)] w fun en w' => en = .returned (.tuple #[]) ∧ FS w' X ⟨cb, pb, wb, hb, lb, tb, fb, mb, B⟩ L t p H (W ++ [s]) ∧ But X w w' := by
  obtain ⟨P, hP⟩ : ∃ P : Ending → World → Prop, P = fun en w' => en = .returned (.tuple #[]) ∧ FS w' X ⟨cb, pb, wb, hb, lb, tb, fb, mb, B⟩ L t p H (W ++ [s]) ∧ But X w w' := ⟨_, rfl⟩
  rw [← hP]
  have HP := hid_intro hP
  obtain ⟨fx, kp, ⟨vh, vw, kh, kw, oh, ow, xh, xw⟩, ⟨cnt, c, hcm, hcn, hcx⟩⟩ := hF
  have hcs : ¬ c s = (p : Int) + 1 := fun h => hin ((hcx s hs).2.1 h)
  have HWT := hid_intro (fun w2 g cap => fs_wait (w2 := w2) (g := g) (cap := cap) (s := s) fx kp kh kw oh ow xh xw hcm hcn hcx)
  have HS := hid_intro (inl_i64 hl hs)
  have HCM := hid_intro hcm
  have HOW := hid_intro ow
  have HSZ := hid_intro fx.sz
  have HLN := hid_intro (show W.length ≤ 1099511627776 by omega)
  have c0 := fx.kc.q1
  have c1 := kp.q1
  have c2 := kw.q1
  have c3 : (w.alloc (.cells #[.int .i64 s] 3)).cell? ⟨wb, 0, none⟩ = some vw := (kw.al _).q1
  have HKW := hid_intro (show vw.ownBlock ≠ some wb from blk_lt ow fx.lo.2.1)
  have HKB := hid_intro kw
  have hpI : (p : Int) ≤ 1048576 := by omega
  dsimp only at c0 c1 c2 HSZ HOW
  clear hP fx kp kh kw oh ow xh xw hcm hcn hcx hl hp hs hin hW
  go_enter Tryz.func57, Tryz.ntmps57
  go_wp2_with (first | (at_lookup; refine wpList_look_cm rfl _ _ rfl mb cnt c rfl HCM.out s rfl HS.out ?_) | (at_builtin; refine wpList_append_i rfl _ _ rfl B vw W rfl HOW.out HSZ.out HLN.out s HS.out _ rfl rfl ?_; intro g cap w2 ho2 hg2 hloc; have hk2 := (HKB.out.al _).gr hg2 HKW.out; obtain z0 := hk2.q1; obtain z1 := hk2.frz 0; have HO2 := hid_intro ho2; have HG2 := hid_intro hg2; have HL2 := hid_intro hloc; clear hk2 ho2 hg2 hloc))
  go_end0
  rw [HP.out]
  exact ⟨rfl, HWT.out _ _ _ HO2.out HG2.out HL2.out⟩
end Go.Proofs.YtoinlmfodmgohaaGreatDoor

namespace Go.Proofs.YtoinlmfodmgohaaGreatDoor
open Go.RowKit Go.Maps
attribute [local go_sem] setCell_drewN alloc_drewN

theorem fs_rows {w : World} {X : Nat → Prop} {e : EV} {L : List ST} {t : List Int} {p : Nat} {H W : List Int} (h : FS w X e L t p H W) (o : Obj) : ∀ vh vw, Bk (w.alloc o) e.hb #[vh] → Bk (w.alloc o) e.wb #[vw] → vh.ownBlock ≠ some w.heap.size ∧ vw.ownBlock ≠ some w.heap.size := by
  intro vh vw h1 h2
  obtain ⟨fx, kp, ⟨vh', vw', kh, kw, oh, ow, xh, xw⟩, mp⟩ := h
  have e1 : vh = vh' := by
    have a := h1.q1
    rw [(kh.al o).q1] at a
    injection a with a
    exact a.symm
  have e2 : vw = vw' := by
    have a := h2.q1
    rw [(kw.al o).q1] at a
    injection a with a
    exact a.symm
  subst e1 e2
  exact ⟨fun h => by have := (oh.lt h).2; omega, fun h => by have := (ow.lt h).2; omega⟩
theorem Bk.c4 {w : World} {b : Nat} {x0 x1 x2 x3 : Value} (h : Bk w b #[x0, x1, x2, x3]) : w.cell? ⟨b, 0, none⟩ = some x0 ∧ w.cell? ⟨b, 1, none⟩ = some x1 ∧ w.cell? ⟨b, 2, none⟩ = some x2 ∧ w.cell? ⟨b, 3, none⟩ = some x3 := ⟨h.cell 0, h.cell 1, h.cell 2, h.cell 3⟩

set_option maxRecDepth 100000 in
set_option maxHeartbeats 6400000 in
theorem follow_any {cb pb wb hb lb tb fb mb B : Nat} {L : List ST} {t : List Int} {p : Nat} (hL : VS L) (hl : L.length ≤ 1048576) (hp : p ≤ 1048576) : ∀ (d : Nat) (X : Nat → Prop) (s deep : Int) (H W : List Int) (w : World), deep = 1000 - (d : Int) → d ≤ 1000 → InL L s → FS w X ⟨cb, pb, wb, hb, lb, tb, fb, mb, B⟩ L t p H W → Grd L (letsB t p) (fun _ => True) H W → W.length + 2 * (L.length - H.length) + 1 ≤ 1073741824 →
    Calls Tryz.prog 57 #[.int .i64 s, .int .i64 deep, .pointer (some ⟨cb, 0, none⟩), .pointer (some ⟨pb, 0, none⟩), .pointer (some ⟨wb, 0, none⟩), .pointer (some ⟨hb, 0, none⟩), .pointer (some ⟨lb, 0, none⟩), .pointer (some ⟨tb, 0, none⟩), .pointer (some ⟨fb, 0, none⟩)] w fun en w' => en = .returned (.tuple #[]) ∧ FS w' X ⟨cb, pb, wb, hb, lb, tb, fb, mb, B⟩ L t p (fol L (letsB t p) d s (H, W)).1 (fol L (letsB t p) d s (H, W)).2 ∧ But X w w' := by
  intro d
  induction d with
  | zero =>
    intro X s deep H W w hd _ hs hF hG hW
    by_cases hin : s ∈ H
    · rw [fol_in hin]
      refine (follow_in hl hp s deep H W w hs hF hin).mono ?_; rintro e w1 ⟨rfl, rfl⟩
      exact ⟨rfl, hF, But.refl _ _⟩
    · rw [fol_end hin]
      obtain rfl : deep = 1000 := by omega
      exact follow_end hl hp s H W w hs hF hin (by omega)
  | succ d ih =>
    intro X s deep H W w hd hd1 hs hF hG hW
    by_cases hin : s ∈ H
    · rw [fol_in hin]
      refine (follow_in hl hp s deep H W w hs hF hin).mono ?_; rintro e w1 ⟨rfl, rfl⟩
      exact ⟨rfl, hF, But.refl _ _⟩
    obtain ⟨n, rfl⟩ : ∃ n : Nat, s = (n : Int) := ⟨s.toNat, by have := hs.1; omega⟩
    have hlen := hG.le
    have hGs : Grd L (letsB t p) (fun _ => True) (H ++ [(n : Int)]) W := hG.push hin hs (.base trivial)
    have hlen1 := hGs.le
    rw [List.length_append] at hlen1
    simp only [List.length_cons, List.length_nil] at hlen1
    obtain ⟨P, hP⟩ : ∃ P : Ending → World → Prop, P = fun en w' => en = .returned (.tuple #[]) ∧ FS w' X ⟨cb, pb, wb, hb, lb, tb, fb, mb, B⟩ L t p (fol L (letsB t p) (d + 1) (n : Int) (H, W)).1 (fol L (letsB t p) (d + 1) (n : Int) (H, W)).2 ∧ But X w w' := ⟨_, rfl⟩
    rw [← hP]
    have HP := hid_intro hP
    obtain ⟨fx, kp, ⟨vh, vw, kh, kw, oh, ow, xh, xw⟩, ⟨cnt, c, hcm, hcn, hcx⟩⟩ := hF
    have hcs : ¬ c (n : Int) = (p : Int) + 1 := fun h => hin ((hcx (n : Int) hs).2.1 h)
    have HMK := hid_intro (fun w1 w2 g cap => fs_mark (w1 := w1) (w2 := w2) (g := g) (cap := cap) (s := (n : Int)) fx kp kh kw oh ow xh xw hcn hcx)
    have HS := hid_intro (inl_i64 hl hs)
    have HIN := hid_intro hs
    have HNI := hid_intro hin
    have HCM := hid_intro hcm
    have HOH := hid_intro oh
    have hpn : p * L.length ≤ 1048576 * 1048576 := Nat.mul_le_mul hp hl
    have HCN := hid_intro (show cnt < 17592186044416 by omega)
    have HFX := hid_intro fx
    have HP64 := hid_intro (show I64 ((p : Int) + 1) from ⟨by omega, by omega⟩)
    have HLN := hid_intro (show H.length ≤ 1099511627776 by omega)
    have HKH := hid_intro (show vh.ownBlock ≠ some hb from blk_lt oh fx.lo.2.2.1)
    have HKB := hid_intro kh
    have HBD := hid_intro (And.intro hp (And.intro hd (And.intro hd1 (And.intro hGs (And.intro hW (And.intro hlen hlen1))))))
    have c0 := fx.kc.q1
    have c1 := kp.q1
    have hpI : (p : Int) ≤ 1048576 := by omega
    have hdI : ¬ deep = 1000 := by omega
    have hdJ : -1 ≤ deep := by omega
    have hdK : deep ≤ 1000 := by omega
    have HIH := hid_intro ih
    dsimp only at c0 c1 HOH
    clear hP fx kp kh kw oh ow xh xw hcm hcn hcx hp hs hin hW ih hlen hlen1 hGs hG hd hd1 hpn
    go_enter Tryz.func57, Tryz.ntmps57
    go_wp2_with (first | (at_lookup; refine wpList_look_cm rfl _ _ rfl mb cnt c rfl HCM.out (n : Int) rfl HS.out ?_) | (at_mapUpdate; refine wpList_put_cm rfl _ _ _ rfl mb cnt c rfl HCM.out HCN.out (n : Int) ((p : Int) + 1) rfl rfl HS.out HP64.out ?_; intro w1 hcm1 hg1; have hkh1 := HKB.out.gr hg1 (fun h => HFX.out.ne.2.2.2.2.2 (by injection h)); have c2 := hkh1.q1; have HOH1 := hid_intro (HOH.out.gr hg1 (fun g hg h => by injection h with h; have := (HOH.out.lt hg).1; have := HFX.out.lo.2.2.2; dsimp only at *; omega)); have HSZ1 := hid_intro (show B ≤ w1.heap.size from Nat.le_trans HFX.out.sz hg1.size); have HK1 := hid_intro hkh1; have HM1 := hid_intro hcm1; have HG1 := hid_intro hg1; clear hkh1 hcm1 hg1 c0 c1 hcs) | (at_builtin; refine wpList_append_i rfl _ _ rfl B vh H rfl HOH1.out HSZ1.out HLN.out (n : Int) HS.out _ rfl rfl ?_; intro g cap w2 ho2 hg2 hloc; have hk2 := (HK1.out.al _).gr hg2 HKH.out; have z0 := hk2.q1; have z1 := hk2.frz 0; have hm0 := HMK.out w1 w2 g cap HM1.out HG1.out ho2 hg2 hloc; obtain ⟨lv, kl, sl⟩ := (hm0 #[] 0).2.2.fx.kl; obtain ⟨b, off, capl, rv, rfl, hc1, hc2, hxb, hblt, ⟨q0, q1, q2, q3⟩, hri⟩ := sl.cells HIN.out; rw [Int.toNat_natCast] at q0 q1 q2 q3; obtain ⟨ra, rc, rfl, hrr⟩ := hri; have l0 := kl.q1; have hV := hm0 #[.int .i64 (sx L (n : Int)).k, .slice ra (sx L (n : Int)).r.length rc, .int .i64 (sx L (n : Int)).a, .int .i64 (sx L (n : Int)).b] 94; obtain ⟨tv, kt, st⟩ := hV.1.fx.kt; have t0 := kt.q1; have p0 := hV.1.kp.q1; have kS : Bk ((w2.setCell ⟨hb, 0, none⟩ (.slice (some ⟨g, 0, none⟩) (H.length + 1) cap)).alloc (.cells #[.int .i64 (sx L (n : Int)).k, .slice ra (sx L (n : Int)).r.length rc, .int .i64 (sx L (n : Int)).a, .int .i64 (sx L (n : Int)).b] 94)) w2.heap.size #[.int .i64 (sx L (n : Int)).k, .slice ra (sx L (n : Int)).r.length rc, .int .i64 (sx L (n : Int)).a, .int .i64 (sx L (n : Int)).b] := Bk.new' _ _ _ _ (by simp); obtain ⟨s0, s1, s2, s3⟩ := kS.c4; have hnL : (n : Int) < (L.length : Int) := HIN.out.2; have HKS := hid_intro kS; have HFV := hid_intro hV.1; have HBV := hid_intro hV.2.1; have HST := hid_intro st; have HF2 := hid_intro hV.2.2; dsimp only at l0 t0 p0; clear hk2 ho2 hg2 hloc hm0 kl sl hc1 hc2 hxb hblt hrr hV kt st kS))
    have HRW := hid_intro (fs_rows HF2.out (.cells #[.int .i64 (sx L (n : Int)).k, .slice ra (sx L (n : Int)).r.length rc, .int .i64 (sx L (n : Int)).a, .int .i64 (sx L (n : Int)).b] 94))
    have esz : (w2.setCell ⟨hb, 0, none⟩ (.slice (some ⟨g, 0, none⟩) (H.length + 1) cap)).heap.size = w2.heap.size := by simp
    have HSB := hid_intro (show B ≤ w2.heap.size from esz ▸ HF2.out.fx.sz)
    obtain ⟨V, hV⟩ : ∃ V, (w2.setCell ⟨hb, 0, none⟩ (.slice (some ⟨g, 0, none⟩) (H.length + 1) cap)).alloc (.cells #[.int .i64 (sx L (n : Int)).k, .slice ra (sx L (n : Int)).r.length rc, .int .i64 (sx L (n : Int)).a, .int .i64 (sx L (n : Int)).b] 94) = V := ⟨_, rfl⟩
    rw [hV] at HKS HFV HBV HST HRW ⊢
    rw [esz] at HRW
    have hlets := lets_any t tv (sx L (n : Int)).k p (by have := HBD.out.1; omega) V X HST.out
    clear z0 z1 q0 q1 q2 q3 l0 t0 p0 s0 s1 s2 s3 hV esz HF2 c2
    refine hlets.mono ?_; rintro e w3 ⟨rfl, rfl⟩
    clear hlets
    have f0 := HFV.out.fx.kf.q1
    dsimp only [clo] at f0
    obtain ⟨s0, s1, s2, s3⟩ := HKS.out.c4
    cases hlb : letsB t p (sx L (n : Int)).k
    · go_wp2_with fail
      go_end0
      rw [HP.out, fol_stop HNI.out hlb]
      exact ⟨rfl, HFV.out, HBV.out⟩
    · have hgg := (letsB_gg t p).2 _ hlb
      have hia := (hL.at HIN.out).1 (by omega)
      have hpo := fol_post (F := fun _ => True) hL (letsB_gg t p) d (sx L (n : Int)).a (H ++ [(n : Int)]) W hia (.base trivial) HBD.out.2.2.2.1
      have HPO := hid_intro hpo
      have hFd := HFV.out.down w2.heap.size HSB.out HKS.out.lt HRW.out
      have h1 := HIH.out _ (sx L (n : Int)).a (deep + 1) (H ++ [(n : Int)]) W _ (by have := HBD.out.2.1; omega) (by have := HBD.out.2.2.1; omega) hia hFd HBD.out.2.2.2.1 (by have := HBD.out.2.2.2.2.1; rw [List.length_append]; simp only [List.length_cons, List.length_nil]; omega)
      clear hFd hpo hgg hia
      go_wp2_with fail
      refine h1.mono ?_; rintro e w4 ⟨rfl, hF4, hB4⟩
      clear s0 s1 s2 s3 f0 h1
      have hFu := FS.up (fun b h => h.1) HFV.out.fx hB4 hF4
      have hBu := HBV.out.trans (hB4.more (fun b h => h.1))
      obtain ⟨s0, s1, s2, s3⟩ := (HKS.out.but hB4 (fun h => h.2 rfl)).c4
      have f0 := hFu.fx.kf.q1
      dsimp only [clo] at f0
      have HF4 := hid_intro hF4
      have HFU := hid_intro hFu
      have HBU := hid_intro hBu
      clear hF4 hB4 hFu hBu
      by_cases k2 : (sx L (n : Int)).k = 2
      · have hib := (hL.at HIN.out).2 k2
        have h2 := HIH.out _ (sx L (n : Int)).b (deep + 1) _ _ w4 (by have := HBD.out.2.1; omega) (by have := HBD.out.2.2.1; omega) hib HF4.out HPO.out.grd (by
          have hle := HPO.out.grd.le
          obtain ⟨E, G, e1, e2, e3, _⟩ := HPO.out.ext
          rw [e1] at hle ⊢
          rw [e2]
          have := HBD.out.2.2.2.2
          have : (if d = 0 then 1 else 0) ≤ 1 := by split <;> omega
          simp only [List.length_append, List.length_cons, List.length_nil] at hle ⊢
          omega)
        clear hib
        go_wp2_with fail
        refine h2.mono ?_; rintro e w5 ⟨rfl, hF5, hB5⟩
        clear s0 s1 s2 s3 f0 h2
        go_wp2_with fail
        go_end0
        rw [HP.out, fol_fork HNI.out hlb k2]
        exact ⟨rfl, FS.up (fun b h => h.1) HFU.out.fx hB5 hF5, HBU.out.trans (hB5.more (fun b h => h.1))⟩
      · go_wp2_with fail
        go_end0
        rw [HP.out, fol_go HNI.out hlb k2]
        exact ⟨rfl, HFU.out, HBU.out⟩
end Go.Proofs.YtoinlmfodmgohaaGreatDoor

namespace Go.Proofs.YtoinlmfodmgohaaGreatDoor
open Go.RowKit

theorem wpList_clo {w : World} {ops : Array Oper} {rest : List Oper} {o : Oper} {a : Act} {Q : Exit → Act → World → Prop} (hg : o.guard = none) (t x y : Operand) (tys : Array TypeId) (hop : o.op = .call { callee := .value t, args := #[x, y], argTypes := tys })
    (f : FuncId) (l : List Value) (ht : a.eval t = .func (.func f) #[] l.toArray) (hent : ∀ args w, (callFunc f args).run Tryz.prog w = .ok (.enter f args) w) (u v : Value) (hx : a.eval x = u) (hy : a.eval y = v) (S : Ending → World → Prop)
    (hc : Calls Tryz.prog f (u :: v :: l).toArray w S) (h : ∀ v w', S (.returned v) w' → wpList Tryz.prog ops Q rest (a.put o.dst v) w') (hS : ∀ e w', S e w' → ∃ v, e = .returned v) : wpList Tryz.prog ops Q (o :: rest) a w := by
  refine wpList_plain hg fun K hK => ?_
  have hrun : (execOp a.eval o).run Tryz.prog w = .ok (.enter f (u :: v :: l).toArray) w := by
    unfold execOp
    simp [hop, resolve, invoke, ht, hx, hy, Deferred.ofValue, hent]
  unfold Oper.wp
  rw [hrun, Oper.upon_enter]
  refine hc.mono fun e w' hh => ?_
  obtain ⟨v, rfl⟩ := hS e w' hh
  exact hK _ _ (h v w' hh)
/-- With one argument. -/
theorem wpList_clo1 {w : World} {ops : Array Oper} {rest : List Oper} {o : Oper} {a : Act} {Q : Exit → Act → World → Prop} (hg : o.guard = none) (t x : Operand) (tys : Array TypeId) (hop : o.op = .call { callee := .value t, args := #[x], argTypes := tys })
    (f : FuncId) (l : List Value) (ht : a.eval t = .func (.func f) #[] l.toArray) (hent : ∀ args w, (callFunc f args).run Tryz.prog w = .ok (.enter f args) w) (u : Value) (hx : a.eval x = u) (S : Ending → World → Prop)
    (hc : Calls Tryz.prog f (u :: l).toArray w S) (h : ∀ v w', S (.returned v) w' → wpList Tryz.prog ops Q rest (a.put o.dst v) w') (hS : ∀ e w', S e w' → ∃ v, e = .returned v) : wpList Tryz.prog ops Q (o :: rest) a w := by
  refine wpList_plain hg fun K hK => ?_
  have hrun : (execOp a.eval o).run Tryz.prog w = .ok (.enter f (u :: l).toArray) w := by
    unfold execOp
    simp [hop, resolve, invoke, ht, hx, Deferred.ofValue, hent]
  unfold Oper.wp
  rw [hrun, Oper.upon_enter]
  refine hc.mono fun e w' hh => ?_
  obtain ⟨v, rfl⟩ := hS e w' hh
  exact hK _ _ (h v w' hh)
end Go.Proofs.YtoinlmfodmgohaaGreatDoor

namespace Go.Proofs.YtoinlmfodmgohaaGreatDoor
open Go.RowKit Go.Maps
attribute [local go_sem] setCell_drewN alloc_drewN

theorem FS.bel {w w' : World} {X : Nat → Prop} {e : EV} {L : List ST} {t : List Int} {p : Nat} {H W : List Int} (h : FS w X e L t p H W) (hb : Below w.heap.size w w') : FS w' X e L t p H W := by
  obtain ⟨fx', kp', ⟨vh', vw', kh', kw', oh', ow', xh', xw'⟩, ⟨cnt', c', hcm', hcn', hcx'⟩⟩ := h
  exact ⟨fx'.but (But.ofBelow hb), kp'.bel hb, ⟨vh', vw', kh'.bel hb, kw'.bel hb, oh'.bel hb, ow'.bel hb, xh', xw'⟩, ⟨cnt', c', hcm'.blk (hb.block _ hcm'.lt), hcn', hcx'⟩⟩
/-- Between two calls: what is answered lies in vh. -/
structure F0 (w : World) (X : Nat → Prop) (e : EV) (L : List ST) (t : List Int) (p : Nat) (vh : Value) : Prop where
  fx : FX w X e L t
  kp : ∃ y, Bk w e.pb #[.int .i64 y]
  kw : ∃ vw, Bk w e.wb #[vw]
  kh : Bk w e.hb #[vh]
  oh : ∃ l, OwnI w e.B vh l
  xh : ∀ b, vh.ownBlock = some b → X b
  mp : ∃ cnt c, CM w e.mb cnt c ∧ cnt ≤ p * L.length ∧ ∀ x, InL L x → c x ≤ (p : Int)
theorem fs_open {w : World} {X : Nat → Prop} {e : EV} {L : List ST} {t : List Int} {p : Nat} {ao : Option Addr} {n cap : Nat} (h : F0 w X e L t p (.slice ao n cap)) {vf : Value} {W : List Int} (ho : OwnI w e.B vf W) (hx : ∀ b, vf.ownBlock = some b → X b ∧ (Value.slice ao n cap).ownBlock ≠ some b) :
    FS (((w.setCell ⟨e.pb, 0, none⟩ (.int .i64 (p : Int))).setCell ⟨e.hb, 0, none⟩ (.slice ao 0 cap)).setCell ⟨e.wb, 0, none⟩ vf) X e L t p [] W ∧ But X w (((w.setCell ⟨e.pb, 0, none⟩ (.int .i64 (p : Int))).setCell ⟨e.hb, 0, none⟩ (.slice ao 0 cap)).setCell ⟨e.wb, 0, none⟩ vf) := by
  obtain ⟨fx, ⟨y, kp⟩, ⟨vw, kw⟩, kh, ⟨l, oh⟩, xh, ⟨cnt, c, hcm, hcn, hcx⟩⟩ := h
  have lo := fx.lo
  have xp := fx.xp
  have ne := fx.ne
  have hB : But X w (((w.setCell ⟨e.pb, 0, none⟩ (.int .i64 (p : Int))).setCell ⟨e.hb, 0, none⟩ (.slice ao 0 cap)).setCell ⟨e.wb, 0, none⟩ vf) :=
    (((But.refl X w).set (Or.inl xp.1) _).set (Or.inl xp.2.2.1) _).set (Or.inl xp.2.1) _
  have hob : (Value.slice ao 0 cap).ownBlock = (Value.slice ao n cap).ownBlock := by
    obtain ⟨ao', cap', e1, _, _, _, h0⟩ := oh.form
    cases ao with
    | none => rfl
    | some a => rfl
  refine ⟨⟨fx.but hB, ?_, ⟨.slice ao 0 cap, vf, ?_, ?_, ?_, ?_, ?_, fun b hb => (hx b hb).1⟩, ⟨cnt, c, ?_, by simpa using hcn, fun x hx => ?_⟩⟩, hB⟩
  · exact ((Bk.set kp 0 _ rfl).away ne.2.1).away ne.1
  · exact (Bk.set (kh.away (fun h => ne.2.1 h.symm)) 0 _ rfl).away (fun h => ne.2.2.1 h.symm)
  · exact Bk.set ((kw.away (fun h => ne.1 h.symm)).away ne.2.2.1) 0 _ rfl
  · exact (((oh.take 0 (Nat.zero_le _)).set _ _ lo.1).set _ _ lo.2.2.1).set _ _ lo.2.1
  · exact ((ho.set _ _ lo.1).set _ _ lo.2.2.1).set _ _ lo.2.1
  · intro b hb
    rw [hob] at hb
    exact ⟨xh b hb, fun h => (hx b h).2 hb⟩
  · refine hcm.blk ?_
    rw [Below.heap_setCell _ _ _ _ (show e.mb ≠ e.wb from ne.2.2.2.2.1), Below.heap_setCell _ _ _ _ (show e.mb ≠ e.hb from ne.2.2.2.2.2), Below.heap_setCell _ _ _ _ (show e.mb ≠ e.pb from ne.2.2.2.1)]
  · have := hcx x hx
    exact ⟨by omega, fun h => by omega, fun h => by simp at h⟩
theorem fs_pop {w : World} {X : Nat → Prop} {e : EV} {L : List ST} {t : List Int} {p : Nat} {H W : List Int} {s : Int} (h : FS w X e L t p H (W ++ [s])) : ∃ g cap, Bk w e.wb #[.slice (some ⟨g, 0, none⟩) (W.length + 1) cap] ∧ w.cell? ⟨g, W.length, none⟩ = some (.int .i64 s) ∧ W.length + 1 ≤ cap ∧ cap ≤ maxLen ∧
    FS (w.setCell ⟨e.wb, 0, none⟩ (.slice (some ⟨g, 0, none⟩) W.length cap)) X e L t p H W ∧ But X w (w.setCell ⟨e.wb, 0, none⟩ (.slice (some ⟨g, 0, none⟩) W.length cap)) := by
  obtain ⟨fx, kp, ⟨vh, vw, kh, kw, oh, ow, xh, xw⟩, ⟨cnt, c, hcm, hcn, hcx⟩⟩ := h
  have lo := fx.lo
  have xp := fx.xp
  have ne := fx.ne
  obtain ⟨ao, cap, rfl, h1, h2, h3, _⟩ := ow.form
  obtain ⟨g, rfl⟩ := h3 (by simp)
  have hlen : (W ++ [s]).length = W.length + 1 := by simp
  rw [hlen] at kw ow xh xw h1
  have hB : But X w (w.setCell ⟨e.wb, 0, none⟩ (.slice (some ⟨g, 0, none⟩) W.length cap)) := (But.refl X w).set (Or.inl xp.2.1) _
  have ht := ow.take W.length (by rw [hlen]; omega)
  rw [List.take_left' rfl] at ht
  refine ⟨g, cap, kw, ?_, h1, h2, ⟨fx.but hB, kp.away ne.1, ⟨vh, _, kh.away (fun h => ne.2.2.1 h.symm), Bk.set kw 0 _ rfl, oh.set _ _ lo.2.1, ht.set _ _ lo.2.1, fun b hb => ⟨(xh b hb).1, (xh b hb).2⟩, fun b hb => xw b hb⟩, ⟨cnt, c, ?_, hcn, hcx⟩⟩, hB⟩
  · have ho := ow.1
    rw [hlen] at ho
    rw [ho.cellAt _ (by omega)]
    simp [ivs]
  · refine hcm.blk ?_
    rw [Below.heap_setCell _ _ _ _ (show e.mb ≠ e.wb from ne.2.2.2.2.1)]
theorem fs_close {w : World} {X : Nat → Prop} {e : EV} {L : List ST} {t : List Int} {p : Nat} {H W : List Int} (h : FS w X e L t p H W) (hle : H.length ≤ L.length) : ∃ ao cap ao' cap', Bk w e.hb #[.slice ao H.length cap] ∧ Bk w e.wb #[.slice ao' W.length cap'] ∧ OwnI w e.B (.slice ao H.length cap) H ∧ F0 w X e L t (p + 1) (.slice ao H.length cap) := by
  obtain ⟨fx, kp, ⟨vh, vw, kh, kw, oh, ow, xh, xw⟩, ⟨cnt, c, hcm, hcn, hcx⟩⟩ := h
  obtain ⟨ao, cap, rfl, _⟩ := oh.form
  obtain ⟨ao', cap', rfl, _⟩ := ow.form
  refine ⟨ao, cap, ao', cap', kh, kw, oh, fx, ⟨_, kp⟩, ⟨_, kw⟩, kh, ⟨_, oh⟩, fun b hb => (xh b hb).1, ⟨cnt, c, hcm, ?_, fun x hx => ?_⟩⟩
  · rw [Nat.add_mul]; omega
  · have := (hcx x hx).1; omega
theorem Lp.tt {L : List ST} {g : Int → Bool} {F : Int → Prop} {H W : List Int} {s : Int} (h : Lp L g F H (W ++ [s])) : Grd L g (fun _ => True) H W := ⟨h.grd.nd, h.grd.inH, fun x hx => h.grd.inW x (by simp [hx]), fun _ _ => .base trivial⟩
theorem ent_follow : ∀ args w, (callFunc 57 args).run Tryz.prog w = .ok (.enter 57 args) w := enters_of Tryz.func57 (by kernel_rfl) rfl
set_option maxRecDepth 100000 in
set_option maxHeartbeats 1600000 in
theorem at_any {X : Nat → Prop} {cb pb wb hb lb tb fb mb B : Nat} {L : List ST} {t : List Int} {p : Nat} (hL : VS L) (hl : L.length ≤ 1048576) (hp : p ≤ 1048576) (vh vf : Value) (W0 : List Int) (w : World) (h0 : F0 w X ⟨cb, pb, wb, hb, lb, tb, fb, mb, B⟩ L t p vh) (ho : OwnI w B vf W0) (hx : ∀ b, vf.ownBlock = some b → X b ∧ vh.ownBlock ≠ some b) (hin : ∀ x ∈ W0, InL L x) (hW : W0.length ≤ 268435456) :
    Calls Tryz.prog 59 #[.int .i64 (p : Int), vf, .pointer (some ⟨hb, 0, none⟩), .pointer (some ⟨pb, 0, none⟩), .pointer (some ⟨wb, 0, none⟩), .pointer (some ⟨fb, 0, none⟩)] w fun en w' => ∃ vh' H, en = .returned vh' ∧ F0 w' X ⟨cb, pb, wb, hb, lb, tb, fb, mb, B⟩ L t (p + 1) vh' ∧ OwnI w' B vh' H ∧ H.Nodup ∧ (∀ x ∈ H, InL L x) ∧ (∀ x, x ∈ H ↔ Rch L (letsB t p) (fun y => y ∈ W0) x) ∧ But X w w' := by
  obtain ⟨P, hP⟩ : ∃ P : Ending → World → Prop, P = fun en w' => ∃ vh' H, en = .returned vh' ∧ F0 w' X ⟨cb, pb, wb, hb, lb, tb, fb, mb, B⟩ L t (p + 1) vh' ∧ OwnI w' B vh' H ∧ H.Nodup ∧ (∀ x ∈ H, InL L x) ∧ (∀ x, x ∈ H ↔ Rch L (letsB t p) (fun y => y ∈ W0) x) ∧ But X w w' := ⟨_, rfl⟩
  rw [← hP]
  have HP := hid_intro hP
  obtain ⟨l0, oh⟩ := h0.oh
  obtain ⟨ao, cap, rfl, hc1, hc2, _⟩ := oh.form
  have hop := fs_open h0 ho hx
  obtain ⟨fx, ⟨y, kp⟩, ⟨vw, kw⟩, kh, _, _, _⟩ := h0
  have n1 := fx.ne.1
  have n2 := fx.ne.2.1
  have n3 := fx.ne.2.2.1
  dsimp only at n1 n2 n3 kp kw kh hop
  have c1 := kp.q1
  have c2 := kw.q1
  have c3 := kh.q1
  have d1 := kp.frz 0
  have d2 := kw.frz 0
  have d3 := kh.frz 0
  obtain ⟨afo, cf, rfl, hf1, hf2, _⟩ := ho.form
  have HOP := hid_intro hop
  have HLP := hid_intro (Lp.start (L := L) (g := letsB t p) hin)
  clear hP fx kp kw kh oh hop hx hin
  go_enter Tryz.func59, Tryz.ntmps59
  go_wp2_with fail
  go_region
  obtain ⟨V, hV⟩ : ∃ V, (((w.setCell ⟨pb, 0, none⟩ (.int .i64 (p : Int))).setCell ⟨hb, 0, none⟩ (.slice ao 0 cap)).setCell ⟨wb, 0, none⟩ (.slice afo W0.length cf)).drew = V := ⟨_, rfl⟩
  have HST := hid_intro (And.intro (show FS V X ⟨cb, pb, wb, hb, lb, tb, fb, mb, B⟩ L t p [] W0 from hV ▸ HOP.out.1.bel (vb_d (Below.refl _ _))) (And.intro HLP.out (show But X w V from hV ▸ HOP.out.2.drew)))
  rw [hV]
  clear hV c1 c2 c3 d1 d2 d3 HOP HLP
  go_wp2_with fail
  go_loopg [10] (3 * L.length + W0.length) (fun mm s10 wr => ∃ H W : List Int, mm = 3 * (L.length - H.length) + W.length ∧ mm ≤ 3 * L.length + W0.length ∧ Hid (FS wr X ⟨cb, pb, wb, hb, lb, tb, fb, mb, B⟩ L t p H W ∧ Lp L (letsB t p) (fun y => y ∈ W0) H W ∧ But X w wr))
  case atStart => exact ⟨[], W0, by simp, by simp, HST⟩
  case round =>
    obtain ⟨H, W, rfl, hm, HI⟩ := hrel
    rcases List.eq_nil_or_concat W with rfl | ⟨W1, s, hWs⟩
    · obtain ⟨ao1, cap1, ao2, cap2, kh, kw, oh, hf0⟩ := fs_close HI.out.1 HI.out.2.1.grd.le
      have c1 := kh.q1
      have c2 := kw.q1
      dsimp only at c1 c2
      have HF := hid_intro (And.intro hf0 oh)
      clear kh kw oh hf0
      go_wp2_with fail
      rw [HP.out]
      exact ⟨_, H, rfl, HF.out.1, HF.out.2, HI.out.2.1.grd.nd, HI.out.2.1.grd.inH, HI.out.2.1.done, HI.out.2.2⟩
    · rw [List.concat_eq_append] at hWs
      subst hWs
      obtain ⟨g, cap1, kw, hcell, hc3, hc4, hFp, hBp⟩ := fs_pop HI.out.1
      have c1 := kw.q1
      have d1 := kw.frz 0
      have f0 := hFp.fx.kf.q1
      dsimp only [clo] at c1 d1 f0
      have hle := HI.out.2.1.grd.le
      have hlen : (W1 ++ [s]).length = W1.length + 1 := by simp
      obtain ⟨d, hd⟩ : ∃ d : Nat, d + 1 = 1000 := ⟨999, rfl⟩
      have h1 := follow_any hL hl hp (d + 1) X s 0 H W1 _ (by omega) (by omega) (HI.out.2.1.grd.inW s (by simp)) hFp HI.out.2.1.tt (by omega)
      have hst := HI.out.2.1.step hL (letsB_gg t p) d
      generalize fol L (letsB t p) (d + 1) s (H, W1) = q at h1 hst
      obtain ⟨H2, W2⟩ := q
      dsimp only at h1 hst
      have HBP := hid_intro (HI.out.2.2.trans hBp)
      have HSTP := hid_intro hst
      have HM := hid_intro (And.intro hm hlen)
      have jj : (W1.length : Int) + 1 ≤ 9223372036854775807 ∧ (W1.length : Int) ≤ (cap1 : Int) ∧ W1.length ≤ cap1 := by omega
      obtain ⟨M, hM⟩ : ∃ M, W1.length = M := ⟨_, rfl⟩
      rw [hM] at c1 hcell f0 h1 jj
      have j0 : (0 : Int) < (M : Int) + 1 := by omega
      have j1 : (M : Int) < (M : Int) + 1 := by omega
      have j2 := jj.1
      have j3 := jj.2.1
      have j5 : ((M + 1 : Nat) : Int) - 1 = (M : Int) := by omega
      have HMM := hid_intro hM
      clear jj hM kw hFp hBp hst hm hlen hle hc3 hc4 HST hd hl hp hW hc1 hc2 hf1 hf2 ho
      obtain ⟨S, hS⟩ : ∃ S : Ending → World → Prop, S = fun en w' => en = .returned (.tuple #[]) ∧ FS w' X ⟨cb, pb, wb, hb, lb, tb, fb, mb, B⟩ L t p H2 W2 ∧ But X (wr.setCell ⟨wb, 0, none⟩ (.slice (some ⟨g, 0, none⟩) M cap1)) w' := ⟨_, rfl⟩
      have H1 := hid_intro (show Calls Tryz.prog 57 _ _ S by rw [hS]; exact h1)
      have HSS := hid_intro hS
      clear h1 hS
      rw [HMM.out] at HBP
      go_wp2_with (refine wpList_clo rfl _ _ _ _ rfl _ _ rfl ent_follow _ _ rfl rfl S ?_ ?_ ?_; exact H1.out; rotate_left; (intro e w' h; rw [HSS.out] at h; exact ⟨_, h.1⟩); intro v2 w2 hs2; rw [HSS.out] at hs2; obtain ⟨hv2, hF2, hB2⟩ := hs2; injection hv2 with hv2; subst hv2; have HN := hid_intro (And.intro hF2 (HBP.out.trans hB2)); clear hF2 hB2 c1 d1 f0 H1 hcell)
      go_roundg (3 * (L.length - H2.length) + W2.length)
      case measure => have := HSTP.out.2; rw [HM.out.2] at this; exact this
      case rel => exact ⟨_, _, rfl, Nat.le_trans (Nat.le_of_lt HSTP.out.2) HM.out.1, ⟨HN.out.1, HSTP.out.1, HN.out.2⟩⟩
end Go.Proofs.YtoinlmfodmgohaaGreatDoor
