/-
  The document's Search. Conditions: at most 2^20 states, ranges of a state and bytes.
  The document's Search. Conditions: at most 2^20 states, ranges of a state and bytes.
  The document's Ends. Conditions: at most 2^20 states, ranges of a state and bytes.
  PikeSearches answers true. Conditions: the table of greatest code points holds its four numbers; at most 2^20 states, ranges of a state and bytes.
-/
import Derived.Test.YtoinlmfodmgohaaGreatDoorExtraKYSearches2
import Derived.Test.YtoinlmfodmgohaaGreatDoorJoined46
import Derived.Test.YtoinlmfodmgohaaGreatDoorExtraKYSearches1
namespace Go.Proofs.YtoinlmfodmgohaaGreatDoor
open Go.RowKit Go.Maps
attribute [local go_sem] setCell_drewN alloc_drewN

set_option maxRecDepth 100000 in
set_option maxHeartbeats 1600000 in
theorem rcheck_no (L : List ST) (hr : ∀ s ∈ L, s.r.length ≤ 1048576) (s : ByteArray) (hs : s.size ≤ 1048576) (lv : Value) (w : World) (X : Nat → Prop) (hS : SI w X L lv) (h : readE L s ≠ 0) :
    Calls Tryz.prog 37 #[lv, .string s] w fun e w' => e = .returned (.tuple #[.slice none 0 0, .int .i64 (readE L s)]) ∧ Below w.heap.size w w' := by
  have hc := refNfa_any L lv w X hS (fun s hs => by have := hr s hs; omega)
  obtain ⟨P, hP⟩ : ∃ P : Ending → World → Prop, P = fun e w' => e = .returned (.tuple #[.slice none 0 0, .int .i64 (readE L s)]) ∧ Below w.heap.size w w' := ⟨_, rfl⟩
  rw [← hP]
  have HP := hid_intro hP
  obtain ⟨a1, c1, rfl, _⟩ := id hS
  cases hn : nfaB L
  · have HE : Hid (readE L s = 101) := hid_intro (by unfold readE; rw [hn]; rfl)
    rw [hn, if_neg Bool.false_ne_true] at hc
    clear hP hS hr hs h hn
    go_enter Tryz.func37, Tryz.ntmps37
    go_wp2_with fail
    refine hc.mono ?_; rintro e w1 ⟨rfl, hb1⟩
    go_wp2_with fail
    rw [HP.out, HE.out]
    exact ⟨rfl, hb1⟩
  · cases hg : goodS s
    · have HE : Hid (readE L s = 10) := hid_intro (by unfold readE; rw [hn, hg]; rfl)
      rw [hn, if_pos rfl] at hc
      have hcv : ∀ w', (convert 9 35 (.string s)).run Tryz.prog w' = _ := fun w' => conv_str w' s
      have HN := hid_intro (fun w1 => rpts_no s (by omega) w1 hg)
      clear hP hS hr hs h hn hg
      go_enter Tryz.func37, Tryz.ntmps37
      go_wp2_with fail
      refine hc.mono ?_; rintro e w1 ⟨rfl, hb1⟩
      have hp := HN.out w1
      have HB := hid_intro hb1
      clear hc hb1
      go_wp2_with fail
      refine hp.mono ?_; rintro e w2 ⟨rfl, hb2⟩
      go_wp2_with fail
      rw [HP.out, HE.out]
      exact ⟨rfl, vb_t HB.out hb2⟩
    · exact absurd (by unfold readE; rw [hn, hg]; rfl) h
set_option maxRecDepth 100000 in
set_option maxHeartbeats 1600000 in
theorem rcheck_ok (L : List ST) (hr : ∀ s ∈ L, s.r.length ≤ 1048576) (s : ByteArray) (hs : s.size ≤ 1048576) (lv : Value) (w : World) (X : Nat → Prop) (hS : SI w X L lv) (hn : nfaB L = true) (hg : goodS s = true) :
    Calls Tryz.prog 37 #[lv, .string s] w fun e w' => ∃ v, e = .returned (.tuple #[v, .int .i64 0]) ∧ OwnI w' w.heap.size v (ptsS s) ∧ Below w.heap.size w w' := by
  have hc := refNfa_any L lv w X hS (fun s hs => by have := hr s hs; omega)
  rw [hn, if_pos rfl] at hc
  obtain ⟨P, hP⟩ : ∃ P : Ending → World → Prop, P = fun e w' => ∃ v, e = .returned (.tuple #[v, .int .i64 0]) ∧ OwnI w' w.heap.size v (ptsS s) ∧ Below w.heap.size w w' := ⟨_, rfl⟩
  rw [← hP]
  have HP := hid_intro hP
  obtain ⟨a1, c1, rfl, _⟩ := id hS
  have hcv : ∀ w', (convert 9 35 (.string s)).run Tryz.prog w' = _ := fun w' => conv_str w' s
  have HN := hid_intro (fun w1 => rpts_ok s (by omega) w1 hg)
  clear hP hS hr hs hn hg
  go_enter Tryz.func37, Tryz.ntmps37
  go_wp2_with fail
  refine hc.mono ?_; rintro e w1 ⟨rfl, hb1⟩
  have hp := HN.out w1
  have HB := hid_intro hb1
  clear hc hb1
  go_wp2_with fail
  refine hp.mono ?_; rintro e w2 ⟨v, rfl, ho, hb2⟩
  obtain ⟨vo, vc, hv, _⟩ := ho.form
  subst hv
  go_wp2_with fail
  rw [HP.out]
  exact ⟨_, rfl, ho.mono HB.out.size, vb_t HB.out hb2⟩
/-- What the loop keeps. -/
def RsI (w1 : World) (L : List ST) (t : List Int) (p n : Nat) (vf : Value) (wr : World) : Prop :=
  p ≤ t.length + 1 ∧ Stp L t true p n ∧ (∀ q, q < p → ¬ Dn L t true q) ∧ Below w1.heap.size w1 wr ∧ (p ≤ t.length → ∃ Fl : List Int, OwnI wr w1.heap.size vf Fl ∧ (∀ y, y ∈ Fl ↔ FrN L t true p y) ∧ Fl.length ≤ 1048576)
theorem fr0 {L : List ST} {t : List Int} {p : Nat} {Fl : List Int} (hfr : ∀ y, y ∈ Fl ↔ FrN L t true p y) (x : Int) : Rch L (letsB t p) (fun y => y ∈ Fl ++ [0]) x ↔ Rs L t true p x := by
  rw [Rs_eq]
  refine Rch.congr (fun y => ?_) x
  rw [List.mem_append, hfr y]
  simp only [List.mem_cons, List.not_mem_nil, or_false]
  constructor
  · rintro (h | h)
    · exact Or.inr h
    · exact Or.inl ⟨h, Or.inr trivial⟩
  · rintro (h | h)
    · exact Or.inr h.1
    · exact Or.inl h
theorem rs_next {w1 : World} {L : List ST} {t : List Int} {p n : Nat} {H : List Int} {v5 : Value} {w4 w5 : World} (hL : VS L) (hlL : L.length ≤ 1048576) (hp : p < t.length) (hnd : H.Nodup) (hrs : ∀ x, x ∈ H ↔ Rs L t true p x) (hst : Stp L t true p n) (hdn : ∀ q, q < p → ¬ Dn L t true q) (hd : ¬ Dn L t true p) (hb4 : Below w1.heap.size w1 w4)
    (ho : OwnI w5 w4.heap.size v5 (nxt L (ia t p) (idx H L.length))) (hb5 : Below w4.heap.size w4 w5) : RsI w1 L t (p + 1) (n + (idx H L.length).length) v5 w5 := by
  have hin : ∀ x ∈ H, 0 ≤ x ∧ x < (L.length : Int) := fun x hx => Rs_inl hL t true p x ((hrs x).1 hx)
  refine ⟨by omega, ⟨n, _, hst, ⟨H, hnd, hrs, (idx_len H L.length hnd hin).symm⟩, rfl⟩, fun q hq => ?_, hb4.trans (hb5.mono hb4.size), fun _ => ⟨_, ho.mono hb4.size, nxt_iff (fun x => (mem_idx H L.length hin x).trans (hrs x)), Nat.le_trans (nxt_len _ _ _) (Nat.le_trans (idx_le _ _) hlL)⟩⟩
  by_cases e : q = p
  · rw [e]; exact hd
  · exact hdn q (by omega)
theorem rs_last {w1 : World} {L : List ST} {t : List Int} {n : Nat} {H : List Int} {vf : Value} {w4 : World} (hL : VS L) (hnd : H.Nodup) (hrs : ∀ x, x ∈ H ↔ Rs L t true t.length x) (hst : Stp L t true t.length n) (hdn : ∀ q, q < t.length → ¬ Dn L t true q) (hd : ¬ Dn L t true t.length) (hb4 : Below w1.heap.size w1 w4) : RsI w1 L t (t.length + 1) (n + (idx H L.length).length) vf w4 := by
  have hin : ∀ x ∈ H, 0 ≤ x ∧ x < (L.length : Int) := fun x hx => Rs_inl hL t true t.length x ((hrs x).1 hx)
  refine ⟨Nat.le_refl _, ⟨n, _, hst, ⟨H, hnd, hrs, (idx_len H L.length hnd hin).symm⟩, rfl⟩, fun q hq => ?_, hb4, fun h => by omega⟩
  by_cases e : q = t.length
  · rw [e]; exact hd
  · exact hdn q (by omega)
theorem dn_x {L : List ST} (hL : VS L) {t : List Int} {p : Nat} {H : List Int} {each : Bool} (hrs : ∀ x, x ∈ H ↔ Rs L t each p x) : dnB L (idx H L.length) = true ↔ Dn L t each p := by
  rw [dn_idx L H L.length (fun x hx => Rs_inl hL t each p x ((hrs x).1 hx))]
  exact dn_iff hrs
end Go.Proofs.YtoinlmfodmgohaaGreatDoor

namespace Go.Proofs.YtoinlmfodmgohaaGreatDoor
open Go.RowKit Go.Maps
attribute [local go_sem] setCell_drewN alloc_drewN

set_option maxRecDepth 100000 in
set_option maxHeartbeats 3200000 in
theorem rsearch_no (L : List ST) (hr : ∀ s ∈ L, s.r.length ≤ 1048576) (s : ByteArray) (hs : s.size ≤ 1048576) (lv : Value) (w : World) (X : Nat → Prop) (hS : SI w X L lv) (h : readE L s ≠ 0) :
    Calls Tryz.prog 14 #[lv, .string s] w fun e w' => e = .returned (.tuple #[.bool false, .int .i64 0, .int .i64 (readE L s)]) ∧ Below w.heap.size w w' := by
  have hrd := rcheck_no L hr s hs lv w X hS h
  obtain ⟨a1, c1, rfl, _⟩ := hS
  obtain ⟨q, hq⟩ : ∃ q, readE L s = q := ⟨_, rfl⟩
  rw [hq] at hrd h ⊢
  obtain ⟨P, hP⟩ : ∃ P : Ending → World → Prop, P = fun e w' => e = .returned (.tuple #[.bool false, .int .i64 0, .int .i64 q]) ∧ Below w.heap.size w w' := ⟨_, rfl⟩
  rw [← hP]
  have HP := hid_intro hP
  clear hP hr hs hq
  go_enter Tryz.func14, Tryz.ntmps14
  go_wp2_with fail
  refine hrd.mono ?_; rintro e w1 ⟨rfl, hb1⟩
  have HB := hid_intro hb1
  clear hrd hb1
  go_wp2_with fail
  refine bodyPost_ret (v := .tuple #[.bool false, .int .i64 0, .int .i64 q]) (by simp [results, Tryz.results14, go_sem]) rfl ?_
  rw [HP.out]
  exact ⟨rfl, HB.out⟩
set_option maxRecDepth 100000 in
set_option maxHeartbeats 3200000 in
theorem rsearch_ok (L : List ST) (hlL : L.length ≤ 1048576) (hr : ∀ s ∈ L, s.r.length ≤ 1048576) (s : ByteArray) (hs : s.size ≤ 1048576) (lv : Value) (w : World) (X0 : Nat → Prop) (hS : SI w X0 L lv) (hn : nfaB L = true) (hg : goodS s = true) :
    Calls Tryz.prog 14 #[lv, .string s] w fun e w' => ∃ b n, e = .returned (.tuple #[.bool b, .int .i64 ((n : Nat) : Int), .int .i64 0]) ∧ SrR L (ptsS s) b n ∧ Below w.heap.size w w' := by
  have hL := vs_of hn
  have hok : ∀ s ∈ L, s.ok := by obtain ⟨_, _, _, _, _, h, _⟩ := hS; exact h
  have hRS := rs_of hn hok hr
  have hread := rcheck_ok L hr s hs lv w X0 hS hn hg
  have hlen := ptsS_len s
  generalize ptsS s = t at hread hlen ⊢
  obtain ⟨a1, c1, rfl⟩ : ∃ a1 c1, lv = .slice a1 L.length c1 := by obtain ⟨a1, c1, rfl, _⟩ := hS; exact ⟨a1, c1, rfl⟩
  obtain ⟨P, hP⟩ : ∃ P : Ending → World → Prop, P = fun e w' => ∃ b n, e = .returned (.tuple #[.bool b, .int .i64 ((n : Nat) : Int), .int .i64 0]) ∧ SrR L t b n ∧ Below w.heap.size w w' := ⟨_, rfl⟩
  rw [← hP]
  have HP := hid_intro hP
  have HS := hid_intro hS
  have HLN := hid_intro (show t.length ≤ 1048576 by omega)
  have HL := hid_intro (And.intro hL (And.intro hlL (And.intro hok hRS)))
  have htI : (t.length : Int) ≤ 1048576 := by omega
  clear hP hS hn hg hs hr hok hRS hlen hL hlL
  go_enter Tryz.func14, Tryz.ntmps14
  go_wp2_with fail
  refine hread.mono ?_; rintro e w1 ⟨v, rfl, ho, hb1⟩
  obtain ⟨va, vc, hv, _⟩ := ho.form
  subst hv
  have HT1 := hid_intro (ho.ii (fun _ => False) (fun _ _ h => h))
  have HS1 := hid_intro (HS.out.kept hb1)
  have HB1 := hid_intro hb1
  clear hread ho hb1
  go_wp2_with fail
  go_loopg [9, 10, 11] (t.length + 1) (fun mm s9 s10 s11 wr => ∃ (p n : Nat) (vf : Value), s11 = .int .i64 (p : Int) ∧ s10 = vf ∧ s9 = .int .i64 (n : Int) ∧ mm = t.length + 1 - p ∧ Hid (RsI w1 L t p n vf wr))
  case atStart => exact ⟨0, 0, _, rfl, rfl, rfl, rfl, ⟨Nat.zero_le _, rfl, (fun q h => by omega), Below.refl _ _, fun _ => ⟨[], OwnI.nil _ _, (fun y => by simp [FrN]), Nat.zero_le _⟩⟩⟩
  case round =>
    obtain ⟨p, n, vf, rfl, rfl, rfl, rfl, HI⟩ := hrel
    by_cases hlt : (p : Int) ≤ (t.length : Int)
    · obtain ⟨hpn, hst, hdn, hbt, hfx⟩ := HI.out
      have hpl : p ≤ t.length := by omega
      obtain ⟨Fl, hof, hfr', hfl⟩ := hfx hpl
      obtain ⟨fo, fc, hvf, _⟩ := hof.form
      subst hvf
      have hnb : n ≤ 1048576 * 1048576 := Nat.le_trans (hst.le HL.out.1) (Nat.mul_le_mul (by have := HLN.out; omega) HL.out.2.1)
      have HO := hid_intro hof
      have HSZ := hid_intro hbt.size
      have HFL := hid_intro (show Fl.length ≤ 1099511627776 by omega)
      have HZ := hid_intro (show I64 0 from ⟨by omega, by omega⟩)
      have HQ := hid_intro (And.intro hst (And.intro hdn (And.intro hnb (And.intro hpl (And.intro hfr' hfl)))))
      have HBT := hid_intro hbt
      clear hof hfr' hfl hst hdn hbt hnb hpn hpl hfx
      go_wp2_with (at_builtin; refine wpList_append_i rfl _ _ rfl w1.heap.size (.slice fo Fl.length fc) Fl rfl HO.out HSZ.out HFL.out 0 HZ.out _ rfl rfl ?_; intro g cap w2 ho2 hg2 hloc; have hb2 : Below w1.heap.size w1 w2 := Below.grown (HBT.out.alloc HSZ.out _) hg2 (Nat.le_trans HSZ.out (by simp)) (fun k hk => (HO.out.lt hk).1); have HO2 := hid_intro ho2; have HB2 := hid_intro hb2; clear ho2 hg2 hloc hb2)
      have hsp := spread_any L HL.out.1 HL.out.2.1 HL.out.2.2.1 t HLN.out p HQ.out.2.2.2.1 (.slice a1 L.length c1) (.slice (some ⟨g, 0, none⟩) (Fl.length + 1) cap) (.slice va t.length vc) (Fl ++ [0]) w1.heap.size w2 _ _ (HS1.out.kept HB2.out) (HT1.out.kept HB2.out) HO2.out (fun e => by simp at e) (fun x hx => by
        rcases List.mem_append.1 hx with hx | hx
        · exact FrN_inl HL.out.1 t true p x ((HQ.out.2.2.2.2.1 x).1 hx)
        · simp at hx; subst hx; exact ⟨by omega, by have := HL.out.1.1; omega⟩) (by have := HQ.out.2.2.2.2.2; simp only [List.length_append, List.length_cons, List.length_nil]; omega)
      refine hsp.mono ?_; rintro e w3 ⟨gm, H, rfl, hom, hnd, hrc, hb3⟩
      have hrs : ∀ x, x ∈ H ↔ Rs L t true p x := fun x => (hrc x).trans (fr0 HQ.out.2.2.2.2.1 x)
      have HR := hid_intro (And.intro hnd hrs)
      have hB3 : Below w1.heap.size w1 w3 := HB2.out.trans (hb3.mono HB2.out.size)
      have HB3 := hid_intro hB3
      have hm3 := hom.ii (fun _ => False) (fun _ _ h => h)
      have HM3 := hid_intro hm3
      have hdo := rdone_any L HL.out.2.1 H (.slice a1 L.length c1) _ w3 _ _ (HS1.out.kept hB3) hm3
      clear hsp hom hnd hrc hrs hb3 hB3 hm3
      go_wp2_with fail
      refine hdo.mono ?_; rintro e w4 ⟨rfl, hw4⟩
      rw [hw4]
      clear hdo hw4
      have hil : ((idx H L.length).length : Int) ≤ 1048576 := by have := idx_le H L.length; have := HL.out.2.1; omega
      have hnI : (n : Int) + ((idx H L.length).length : Int) ≤ 9223372036854775807 := by have := HQ.out.2.2.1; omega
      have HDX := hid_intro (dn_x HL.out.1 HR.out.2)
      cases hd : dnB L (idx H L.length)
      · have HND : Hid (¬ Dn L t true p) := hid_intro (fun h => by have := HDX.out.2 h; rw [hd] at this; cases this)
        by_cases hpt : (p : Int) < (t.length : Int)
        · have hpt' : p < t.length := by omega
          obtain ⟨bt, ot, ct, et, ct0⟩ := (HT1.out.kept HB3.out).at hpt'
          injection et with et1 _ et3
          subst et1 et3
          have HFO := hid_intro (rfollow_any L HL.out.2.1 HL.out.2.2.2 H (ia t p) (.slice a1 L.length c1) _ w3 _ _ (HS1.out.kept HB3.out) HM3.out)
          have HPT := hid_intro hpt'
          clear hpt' hd
          go_wp2_with fail
          refine HFO.out.mono ?_; rintro e w5 ⟨v5, rfl, ho5, _, hb5⟩
          have HN := hid_intro (rs_next HL.out.1 HL.out.2.1 HPT.out HR.out.1 HR.out.2 HQ.out.1 HQ.out.2.1 HND.out HB3.out ho5 hb5)
          clear ho5 hb5 ct0
          go_wp2_with fail
          go_roundg (t.length + 1 - (p + 1))
          case measure => have := HPT.out; omega
          case rel => exact ⟨p + 1, _, _, by simp, rfl, by simp, rfl, HN⟩
        · obtain rfl : p = t.length := by have := HQ.out.2.2.2.1; omega
          have HN := hid_intro (rs_last (vf := .slice fo Fl.length fc) HL.out.1 HR.out.1 HR.out.2 HQ.out.1 HQ.out.2.1 HND.out HB3.out)
          clear hd
          go_wp2_with fail
          go_roundg (t.length + 1 - (t.length + 1))
          case measure => omega
          case rel => exact ⟨t.length + 1, _, _, by simp, rfl, by simp, rfl, HN⟩
      · have HD := hid_intro (HDX.out.1 hd)
        clear hd
        go_wp2_with fail
        refine bodyPost_ret (v := .tuple #[.bool true, .int .i64 ((n : Int) + ((idx H L.length).length : Int)), .int .i64 0]) (by simp [results, Tryz.results14, go_sem]) rfl ?_
        rw [HP.out]
        refine ⟨true, n + (idx H L.length).length, by simp, ⟨p, HQ.out.2.2.2.1, ⟨n, _, HQ.out.1, ⟨H, HR.out.1, HR.out.2, (idx_len H L.length HR.out.1 (fun x hx => Rs_inl HL.out.1 t true p x ((HR.out.2 x).1 hx))).symm⟩, rfl⟩, Or.inl ⟨rfl, HD.out, HQ.out.2.1⟩⟩, vb_t HB1.out HB3.out⟩
    · have hpe : p = t.length + 1 := by have := HI.out.1; omega
      go_wp2_with fail
      refine bodyPost_ret (v := .tuple #[.bool false, .int .i64 (n : Int), .int .i64 0]) (by simp [results, Tryz.results14, go_sem]) rfl ?_
      rw [HP.out]
      obtain ⟨hpn, hst, hdn, hbt, hfx⟩ := HI.out
      exact ⟨false, n, rfl, ⟨t.length, Nat.le_refl _, hpe ▸ hst, Or.inr ⟨rfl, rfl, fun q hq => hdn q (by omega)⟩⟩, vb_t HB1.out hbt⟩
end Go.Proofs.YtoinlmfodmgohaaGreatDoor

namespace Go.Proofs.YtoinlmfodmgohaaGreatDoor
open Go.RowKit Go.Maps
attribute [local go_sem] setCell_drewN alloc_drewN

theorem fre0 {L : List ST} {t : List Int} {p : Nat} {Fl : List Int} (hfr : ∀ y, y ∈ Fl ↔ FrE L t p y) (x : Int) : Rch L (letsB t p) (fun y => y ∈ Fl) x ↔ Rs L t false p x := by
  rw [Rs_eq]
  refine Rch.congr (fun y => ?_) x
  rw [hfr y]
  unfold FrE
  simp
/-- What the loop keeps. -/
def REI (w1 : World) (L : List ST) (t : List Int) (p : Nat) (vo vf : Value) (wr : World) : Prop :=
  p ≤ t.length + 1 ∧ (∃ E, OwnI wr w1.heap.size vo E ∧ EnP L t p E) ∧ Below w1.heap.size w1 wr ∧ (p ≤ t.length → ∃ Fl : List Int, OwnI wr w1.heap.size vf Fl ∧ (Fl = [] → vf = .slice none 0 0) ∧ (∀ y, y ∈ Fl ↔ FrE L t p y) ∧ Fl.length ≤ 1048576)
theorem re_next {w1 : World} {L : List ST} {t : List Int} {p : Nat} {H : List Int} {vo v5 : Value} {w4 w5 : World} (hL : VS L) (hlL : L.length ≤ 1048576) (hp : p < t.length) (hrs : ∀ x, x ∈ H ↔ Rs L t false p x) (hE : ∃ E, OwnI w4 w1.heap.size vo E ∧ EnP L t (p + 1) E) (hb4 : Below w1.heap.size w1 w4)
    (ho : OwnI w5 w4.heap.size v5 (nxt L (ia t p) (idx H L.length))) (hnil : nxt L (ia t p) (idx H L.length) = [] → v5 = .slice none 0 0) (hb5 : Below w4.heap.size w4 w5) : REI w1 L t (p + 1) vo v5 w5 := by
  have hin : ∀ x ∈ H, 0 ≤ x ∧ x < (L.length : Int) := fun x hx => Rs_inl hL t false p x ((hrs x).1 hx)
  obtain ⟨E, hoE, hen⟩ := hE
  refine ⟨by omega, ⟨E, hoE.bel hb5, hen⟩, hb4.trans (hb5.mono hb4.size), fun _ => ⟨_, ho.mono hb4.size, hnil, fun y => ?_, Nat.le_trans (nxt_len _ _ _) (Nat.le_trans (idx_le _ _) hlL)⟩⟩
  rw [nxt_iff (fun x => (mem_idx H L.length hin x).trans (hrs x))]
  unfold FrE
  simp
theorem re_last {w1 : World} {L : List ST} {t : List Int} {vo vf : Value} {w4 : World} (hE : ∃ E, OwnI w4 w1.heap.size vo E ∧ EnP L t (t.length + 1) E) (hb4 : Below w1.heap.size w1 w4) : REI w1 L t (t.length + 1) vo vf w4 := ⟨Nat.le_refl _, hE, hb4, fun h => by omega⟩
theorem re_app {w1 w3 w4 : World} {L : List ST} {t E M : List Int} {p g cap gm n : Nat} {vo : Value} {B3 : Nat} (hB : w1.heap.size ≤ w3.heap.size) (hb3 : Below w1.heap.size w1 w3) (hoE : OwnI w3 w1.heap.size vo E) (hlt : ∀ b, vo.ownBlock = some b → b < B3) (hm : OwnI w3 B3 (.slice (some ⟨gm, 0, none⟩) n n) M) (hen : EnP L t p E) (hd : Dn L t false p)
    (ho : OwnI w4 w1.heap.size (.slice (some ⟨g, 0, none⟩) (E.length + 1) cap) (E ++ [(p : Int)])) (hg : (w3.alloc (.cells #[.int .i64 (p : Int)] 3)).grownBy w4 vo.ownBlock) :
    (∃ E', OwnI w4 w1.heap.size (.slice (some ⟨g, 0, none⟩) (E.length + 1) cap) E' ∧ EnP L t (p + 1) E') ∧ Below w1.heap.size w1 w4 ∧ OwnI w4 B3 (.slice (some ⟨gm, 0, none⟩) n n) M := by
  refine ⟨⟨_, ho, ⟨E, hen, Or.inl ⟨hd, rfl⟩⟩⟩, Below.grown (hb3.alloc hB _) hg (Nat.le_trans hB (by simp)) (fun k hk => (hoE.lt hk).1), (hm.bel (vb_a (Below.refl _ _) _)).gr hg (fun b hb e => ?_)⟩
  have h1 := hlt b e
  have h2 := (hm.lt hb).1
  omega
set_option maxRecDepth 100000 in
set_option maxHeartbeats 3200000 in
theorem rends_no (L : List ST) (hr : ∀ s ∈ L, s.r.length ≤ 1048576) (s : ByteArray) (hs : s.size ≤ 1048576) (lv : Value) (w : World) (X : Nat → Prop) (hS : SI w X L lv) (h : readE L s ≠ 0) :
    Calls Tryz.prog 16 #[lv, .string s] w fun e w' => e = .returned (.tuple #[.slice none 0 0, .int .i64 (readE L s)]) ∧ Below w.heap.size w w' := by
  have hrd := rcheck_no L hr s hs lv w X hS h
  obtain ⟨a1, c1, rfl, _⟩ := hS
  obtain ⟨q, hq⟩ : ∃ q, readE L s = q := ⟨_, rfl⟩
  rw [hq] at hrd h ⊢
  obtain ⟨P, hP⟩ : ∃ P : Ending → World → Prop, P = fun e w' => e = .returned (.tuple #[.slice none 0 0, .int .i64 q]) ∧ Below w.heap.size w w' := ⟨_, rfl⟩
  rw [← hP]
  have HP := hid_intro hP
  clear hP hr hs hq
  go_enter Tryz.func16, Tryz.ntmps16
  go_wp2_with fail
  refine hrd.mono ?_; rintro e w1 ⟨rfl, hb1⟩
  have HB := hid_intro hb1
  clear hrd hb1
  go_wp2_with fail
  rw [HP.out]
  exact ⟨rfl, HB.out⟩
set_option maxRecDepth 100000 in
set_option maxHeartbeats 3200000 in
theorem pends_no (L : List ST) (hr : ∀ s ∈ L, s.r.length ≤ 1099511627776) (s : ByteArray) (hs : s.size ≤ 1099511627776) (lv : Value) (w : World) (hT : Tab w) (X : Nat → Prop) (hS : SI w X L lv) (h : readE L s ≠ 0) :
    Calls Tryz.prog 15 #[lv, .string s] w fun e w' => e = .returned (.tuple #[.slice none 0 0, .int .i64 (readE L s)]) ∧ Below w.heap.size w w' := by
  have hrd := read_no L hr s hs lv w hT X hS h
  obtain ⟨a1, c1, rfl, _⟩ := hS
  obtain ⟨q, hq⟩ : ∃ q, readE L s = q := ⟨_, rfl⟩
  rw [hq] at hrd h ⊢
  obtain ⟨P, hP⟩ : ∃ P : Ending → World → Prop, P = fun e w' => e = .returned (.tuple #[.slice none 0 0, .int .i64 q]) ∧ Below w.heap.size w w' := ⟨_, rfl⟩
  rw [← hP]
  have HP := hid_intro hP
  clear hP hr hs hq hT
  go_enter Tryz.func15, Tryz.ntmps15
  go_wp2_with fail
  refine hrd.mono ?_; rintro e w1 ⟨rfl, hb1⟩
  have HB := hid_intro hb1
  clear hrd hb1
  go_wp2_with fail
  rw [HP.out]
  exact ⟨rfl, HB.out⟩
set_option maxRecDepth 100000 in
set_option maxHeartbeats 3200000 in
theorem rends_ok (L : List ST) (hlL : L.length ≤ 1048576) (hr : ∀ s ∈ L, s.r.length ≤ 1048576) (s : ByteArray) (hs : s.size ≤ 1048576) (lv : Value) (w : World) (X0 : Nat → Prop) (hS : SI w X0 L lv) (hn : nfaB L = true) (hg : goodS s = true) :
    Calls Tryz.prog 16 #[lv, .string s] w fun e w' => ∃ v E, e = .returned (.tuple #[v, .int .i64 0]) ∧ OwnI w' w.heap.size v E ∧ EnP L (ptsS s) ((ptsS s).length + 1) E ∧ Below w.heap.size w w' := by
  have hL := vs_of hn
  have hok : ∀ s ∈ L, s.ok := by obtain ⟨_, _, _, _, _, h, _⟩ := hS; exact h
  have hRS := rs_of hn hok hr
  have hread := rcheck_ok L hr s hs lv w X0 hS hn hg
  have hlen := ptsS_len s
  generalize ptsS s = t at hread hlen ⊢
  obtain ⟨a1, c1, rfl⟩ : ∃ a1 c1, lv = .slice a1 L.length c1 := by obtain ⟨a1, c1, rfl, _⟩ := hS; exact ⟨a1, c1, rfl⟩
  obtain ⟨P, hP⟩ : ∃ P : Ending → World → Prop, P = fun e w' => ∃ v E, e = .returned (.tuple #[v, .int .i64 0]) ∧ OwnI w' w.heap.size v E ∧ EnP L t (t.length + 1) E ∧ Below w.heap.size w w' := ⟨_, rfl⟩
  rw [← hP]
  have HP := hid_intro hP
  have HS := hid_intro hS
  have HLN := hid_intro (show t.length ≤ 1048576 by omega)
  have HL := hid_intro (And.intro hL (And.intro hlL (And.intro hok hRS)))
  have htI : (t.length : Int) ≤ 1048576 := by omega
  clear hP hS hn hg hs hr hok hRS hlen hL hlL
  go_enter Tryz.func16, Tryz.ntmps16
  go_wp2_with fail
  refine hread.mono ?_; rintro e w1 ⟨v, rfl, ho, hb1⟩
  obtain ⟨va, vc, hv, _⟩ := ho.form
  subst hv
  have HT1 := hid_intro (ho.ii (fun _ => False) (fun _ _ h => h))
  have HS1 := hid_intro (HS.out.kept hb1)
  have HB1 := hid_intro hb1
  obtain ⟨W0, hW0⟩ : ∃ W0, w1.alloc (.cells #[.int .i64 0] 3) = W0 := ⟨_, rfl⟩
  have hb0 : Below w1.heap.size w1 W0 := hW0 ▸ vb_a (Below.refl _ _) _
  have hof0 : OwnI W0 w1.heap.size (.slice (some ⟨w1.heap.size, 0, none⟩) 1 1) [0] := by
    refine ⟨?_, fun x hx => by simp at hx; subst hx; exact ⟨by omega, by omega⟩⟩
    have := World.ownsRow_lit (base := w1.heap.size) (e := 3) (size := 1) w1 #[.int .i64 0] 1 (Nat.le_refl _) (by unfold maxLen; omega) rfl
    rw [hW0] at this
    exact this
  have HW0 := hid_intro hW0
  have HOF0 := hid_intro hof0
  have HB0 := hid_intro hb0
  clear hread ho hb1 hW0 hb0 hof0
  go_wp2_with fail
  rw [HW0.out]
  go_loopg [8, 9, 10] (t.length + 1) (fun mm s8 s9 s10 wr => ∃ (p : Nat) (vo vf : Value), s10 = .int .i64 (p : Int) ∧ s8 = vo ∧ s9 = vf ∧ mm = t.length + 1 - p ∧ Hid (REI w1 L t p vo vf wr))
  case atStart => exact ⟨0, _, _, rfl, rfl, rfl, rfl, ⟨Nat.zero_le _, ⟨[], OwnI.nil _ _, rfl⟩, HB0.out, fun _ => ⟨[0], HOF0.out, (fun h => by simp at h), (fun y => by simp [FrE, FrN]), by simp⟩⟩⟩
  case round =>
    obtain ⟨p, vo, vf, rfl, rfl, rfl, rfl, HI⟩ := hrel
    by_cases hlt : (p : Int) ≤ (t.length : Int)
    · obtain ⟨hpn, ⟨E, hoE, hen⟩, hbt, hfx⟩ := HI.out
      have hpl : p ≤ t.length := by omega
      obtain ⟨Fl, hof, hnil, hfr', hfl⟩ := hfx hpl
      obtain ⟨fo, fc, hvf, _⟩ := hof.form
      subst hvf
      obtain ⟨eo, ec, hve, _⟩ := hoE.form
      subst hve
      have hsp := spread_any L HL.out.1 HL.out.2.1 HL.out.2.2.1 t HLN.out p hpl (.slice a1 L.length c1) (.slice fo Fl.length fc) (.slice va t.length vc) Fl w1.heap.size wr _ _ (HS1.out.kept hbt) (HT1.out.kept hbt) hof hnil (fun x hx => FrE_inl HL.out.1 t p x ((hfr' x).1 hx)) (by omega)
      have HQ := hid_intro (And.intro hen (And.intro hpl (And.intro hfr' hbt)))
      have HOE := hid_intro hoE
      have HEL := hid_intro (show E.length ≤ 1099511627776 by have := hen.len; have := HLN.out; omega)
      have HPI := hid_intro (show I64 (p : Int) from ⟨by omega, by omega⟩)
      clear hpn hoE hen hbt hfx hpl hof hnil hfr' hfl
      go_wp2_with fail
      refine hsp.mono ?_; rintro e w3 ⟨gm, H, rfl, hom, hnd, hrc, hb3⟩
      have hrs : ∀ x, x ∈ H ↔ Rs L t false p x := fun x => (hrc x).trans (fre0 HQ.out.2.2.1 x)
      have HR := hid_intro (And.intro hnd hrs)
      have hB3 : Below w1.heap.size w1 w3 := HQ.out.2.2.2.trans (hb3.mono HQ.out.2.2.2.size)
      have HB3 := hid_intro hB3
      have HOE3 := hid_intro (HOE.out.bel hb3)
      have HOL := hid_intro (fun b (h : (Value.slice eo E.length ec).ownBlock = some b) => (HOE.out.lt h).2)
      have HOM := hid_intro hom
      have HSZ := hid_intro hB3.size
      have hdo := rdone_any L HL.out.2.1 H (.slice a1 L.length c1) _ w3 _ _ (HS1.out.kept hB3) (hom.ii (fun _ => False) (fun _ _ h => h))
      clear hsp hom hnd hrc hrs hb3 hB3
      go_wp2_with fail
      refine hdo.mono ?_; rintro e w4 ⟨rfl, hw4⟩
      rw [hw4]
      clear hdo hw4
      have HDX := hid_intro (dn_x HL.out.1 HR.out.2)
      cases hd : dnB L (idx H L.length)
      · have HE3 : Hid (∃ E', OwnI w3 w1.heap.size (.slice eo E.length ec) E' ∧ EnP L t (p + 1) E') := hid_intro ⟨E, HOE3.out, E, HQ.out.1, Or.inr ⟨fun h => by { have := HDX.out.2 h; rw [hd] at this; cases this }, rfl⟩⟩
        have HMM := hid_intro (HOM.out.ii (fun _ => False) (fun _ _ h => h))
        clear hd
        by_cases hpt : (p : Int) < (t.length : Int)
        · have hpt' : p < t.length := by omega
          have HPT := hid_intro hpt'
          obtain ⟨bt, ot, ct, et, ct0⟩ := (HT1.out.kept HB3.out).at hpt'
          injection et with et1 _ et3
          subst et1 et3
          have HTC : Hid (∀ w', Below w1.heap.size w1 w' → w'.cell? ⟨bt, ot + p, none⟩ = some (.int .i64 (ia t p))) := hid_intro (fun w' hb => by
            obtain ⟨b2, o2, c2, e2, h2⟩ := (HT1.out.kept hb).at HPT.out
            injection e2 with e2 _ _
            injection e2 with e2
            injection e2 with e2 e3 _
            subst e2 e3
            exact h2)
          clear hpt'
          go_wp2_with (fail)
          have HBN := HB3
          have hfo := rfollow_any L HL.out.2.1 HL.out.2.2.2 H (ia t p) (.slice a1 L.length c1) (.slice (some ⟨gm, 0, none⟩) L.length L.length) w3 _ _ (HS1.out.kept HBN.out) HMM.out
          refine hfo.mono ?_; rintro e w6 ⟨v6, rfl, ho6, hnil6, hb6⟩
          have HN := hid_intro (re_next HL.out.1 HL.out.2.1 HPT.out HR.out.2 HE3.out HBN.out ho6 hnil6 hb6)
          clear ho6 hb6 hnil6 hfo
          go_wp2_with fail
          go_roundg (t.length + 1 - (p + 1))
          case measure => have := HPT.out; omega
          case rel => exact ⟨p + 1, _, _, by simp, rfl, rfl, rfl, HN⟩
        · obtain rfl : p = t.length := by have := HQ.out.2.1; omega
          go_wp2_with (fail)
          have HBN := HB3
          have HN := hid_intro (re_last (vf := .slice fo Fl.length fc) HE3.out HBN.out)
          go_roundg (t.length + 1 - (t.length + 1))
          case measure => omega
          case rel => exact ⟨t.length + 1, _, _, by simp, rfl, rfl, rfl, HN⟩
      · have HD := hid_intro (HDX.out.1 hd)
        clear hd
        by_cases hpt : (p : Int) < (t.length : Int)
        · have hpt' : p < t.length := by omega
          have HPT := hid_intro hpt'
          obtain ⟨bt, ot, ct, et, ct0⟩ := (HT1.out.kept HB3.out).at hpt'
          injection et with et1 _ et3
          subst et1 et3
          have HTC : Hid (∀ w', Below w1.heap.size w1 w' → w'.cell? ⟨bt, ot + p, none⟩ = some (.int .i64 (ia t p))) := hid_intro (fun w' hb => by
            obtain ⟨b2, o2, c2, e2, h2⟩ := (HT1.out.kept hb).at HPT.out
            injection e2 with e2 _ _
            injection e2 with e2
            injection e2 with e2 e3 _
            subst e2 e3
            exact h2)
          clear hpt'
          go_wp2_with (at_builtin; refine wpList_append_i rfl _ _ rfl w1.heap.size (.slice eo E.length ec) E rfl HOE3.out HSZ.out HEL.out (p : Int) HPI.out _ rfl rfl ?_; intro g cap w5 ho5 hg5 hloc5; have HX := hid_intro (re_app HSZ.out HB3.out HOE3.out HOL.out HOM.out HQ.out.1 HD.out ho5 hg5); clear ho5 hg5 hloc5; have ct5 := HTC.out w5 HX.out.2.1; clear ct0)
          have HBN := hid_intro HX.out.2.1
          have HE3 := hid_intro HX.out.1
          have HMM := hid_intro (HX.out.2.2.ii (fun _ => False) (fun _ _ h => h))
          have hfo := rfollow_any L HL.out.2.1 HL.out.2.2.2 H (ia t p) (.slice a1 L.length c1) (.slice (some ⟨gm, 0, none⟩) L.length L.length) w5 _ _ (HS1.out.kept HBN.out) HMM.out
          refine hfo.mono ?_; rintro e w6 ⟨v6, rfl, ho6, hnil6, hb6⟩
          have HN := hid_intro (re_next HL.out.1 HL.out.2.1 HPT.out HR.out.2 HE3.out HBN.out ho6 hnil6 hb6)
          clear ho6 hb6 hnil6 hfo
          go_wp2_with fail
          go_roundg (t.length + 1 - (p + 1))
          case measure => have := HPT.out; omega
          case rel => exact ⟨p + 1, _, _, by simp, rfl, rfl, rfl, HN⟩
        · obtain rfl : p = t.length := by have := HQ.out.2.1; omega
          go_wp2_with (at_builtin; refine wpList_append_i rfl _ _ rfl w1.heap.size (.slice eo E.length ec) E rfl HOE3.out HSZ.out HEL.out (t.length : Int) HPI.out _ rfl rfl ?_; intro g cap w5 ho5 hg5 hloc5; have HX := hid_intro (re_app HSZ.out HB3.out HOE3.out HOL.out HOM.out HQ.out.1 HD.out ho5 hg5); clear ho5 hg5 hloc5)
          have HBN := hid_intro HX.out.2.1
          have HE3 := hid_intro HX.out.1
          have HMM := hid_intro (HX.out.2.2.ii (fun _ => False) (fun _ _ h => h))
          have HN := hid_intro (re_last (vf := .slice fo Fl.length fc) HE3.out HBN.out)
          go_roundg (t.length + 1 - (t.length + 1))
          case measure => omega
          case rel => exact ⟨t.length + 1, _, _, by simp, rfl, rfl, rfl, HN⟩
    · have hpe : p = t.length + 1 := by have := HI.out.1; omega
      obtain ⟨hpn, ⟨E, hoE, hen⟩, hbt, hfx⟩ := HI.out
      obtain ⟨eo, ec, hve, _⟩ := hoE.form
      subst hve
      have HE := hid_intro (And.intro hoE (And.intro hen hbt))
      clear hpn hoE hen hbt hfx HI
      go_wp2_with fail
      rw [HP.out]
      exact ⟨_, E, rfl, HE.out.1.mono HB1.out.size, hpe ▸ HE.out.2.1, vb_t HB1.out HE.out.2.2⟩
end Go.Proofs.YtoinlmfodmgohaaGreatDoor

namespace Go.Proofs.YtoinlmfodmgohaaGreatDoor
open Go.RowKit Go.Maps
attribute [local go_sem] setCell_drewN alloc_drewN

theorem irow_of {w : World} {B : Nat} {v : Value} {l : List Int} (h : OwnI w B v l) : IRow w v l := IRow.of_own h.1
set_option maxRecDepth 100000 in
set_option maxHeartbeats 3200000 in
theorem searches_walk (L : List ST) (hlL : L.length ≤ 1048576) (hr : ∀ s ∈ L, s.r.length ≤ 1048576) (s : ByteArray) (hs : s.size ≤ 1048576) (c : Int) (lv : Value) (w : World) (hT : Tab w) (hg0 : 0 < w.heap.size) (X0 : Nat → Prop) (hS : SI w X0 L lv) :
    Calls Tryz.prog 4 #[lv, .string s, .int .i64 c] w fun e w' => e = .returned (.bool true) ∧ Below w.heap.size w w' := by
  obtain ⟨P, hP⟩ : ∃ P : Ending → World → Prop, P = fun e w' => e = .returned (.bool true) ∧ Below w.heap.size w w' := ⟨_, rfl⟩
  rw [← hP]
  have HP := hid_intro hP
  have HHD := hid_intro (fun w' (hb : Below w.heap.size w w') => pheads_any w' (hT.below hb) (Nat.lt_of_lt_of_le hg0 hb.size))
  have HTB := hid_intro (fun w' (hb : Below w.heap.size w w') => hT.below hb)
  have HSB := hid_intro (fun w' (hb : Below w.heap.size w w') => hS.kept hb)
  have HW1 := hid_intro (fun w' => word_any c w')
  have HW2 := hid_intro (fun w' => rword_any c w')
  obtain ⟨a1, c1, rfl⟩ : ∃ a1 c1, lv = .slice a1 L.length c1 := by obtain ⟨a1, c1, rfl, _⟩ := hS; exact ⟨a1, c1, rfl⟩
  by_cases he : readE L s = 0
  · obtain ⟨hn, hg⟩ := read_zero he
    have h1 := search_ok L hlL hr s hs _ w hT X0 hS hn hg
    have H2 := hid_intro (fun w' (hb : Below w.heap.size w w') => rsearch_ok L hlL hr s hs _ w' _ (HSB.out w' hb) hn hg)
    have H3 := hid_intro (fun w' (hb : Below w.heap.size w w') => ends_ok L hlL hr s hs _ w' (HTB.out w' hb) _ (HSB.out w' hb) hn hg)
    have H4 := hid_intro (fun w' (hb : Below w.heap.size w w') => rends_ok L hlL hr s hs _ w' _ (HSB.out w' hb) hn hg)
    clear hP hT hg0 hS hr he hn hg hlL hs
    go_enter Tryz.func4, Tryz.ntmps4
    go_wp2_with fail
    refine h1.mono ?_; rintro e w1 ⟨b1, n1, rfl, hsr1, hb1⟩
    have h2 := H2.out w1 hb1
    have HB1 := hid_intro hb1
    have HSR := hid_intro hsr1
    clear h1 hb1 hsr1
    go_wp2_with fail
    refine h2.mono ?_; rintro e w2 ⟨b2, n2, rfl, hsr2, hb2⟩
    obtain ⟨rfl, rfl⟩ := HSR.out.uniq hsr2
    have hb02 := vb_t HB1.out hb2
    have h3 := H3.out w2 hb02
    have HB2 := hid_intro hb02
    clear h2 hb2 hsr2 hb02
    go_wp2_with fail
    refine h3.mono ?_; rintro e w3 ⟨v3, E3, rfl, ho3, hen3, hb3⟩
    obtain ⟨eo, ec, hv, _⟩ := ho3.form
    subst hv
    have hb03 := vb_t HB2.out hb3
    have h4 := H4.out w3 hb03
    have HB3 := hid_intro hb03
    have HO3 := hid_intro ho3
    have HEN := hid_intro hen3
    clear h3 hb3 ho3 hen3 hb03
    go_wp2_with fail
    refine h4.mono ?_; rintro e w4 ⟨v4, E4, rfl, ho4, hen4, hb4⟩
    obtain rfl := HEN.out.uniq hen4
    obtain ⟨eo', ec', hv, _⟩ := ho4.form
    subst hv
    have h5 := ints_any _ _ E3 E3 w4 (irow_of (HO3.out.bel hb4)) (irow_of ho4)
    rw [decide_eq_true rfl] at h5
    have HB4 := hid_intro (vb_t HB3.out hb4)
    clear h4 hb4 ho4 hen4
    go_wp2_with fail
    refine h5.mono ?_; rintro e w5 ⟨rfl, q, rfl⟩
    clear h5
    have h6 := HW1.out (w4.drewN q)
    go_wp2_with fail
    refine h6.mono ?_; rintro e w6 ⟨rfl, hw6⟩
    rw [hw6]
    have h7 := HW2.out (w4.drewN q)
    clear h6 hw6
    go_wp2_with fail
    refine h7.mono ?_; rintro e w6 ⟨rfl, hw6⟩
    rw [hw6]
    have HB5 := hid_intro (bel_drewN HB4.out q)
    have h8 := HHD.out (w4.drewN q) HB5.out
    clear h7 hw6
    go_wp2_with fail
    refine h8.mono ?_; rintro e w6 ⟨rfl, hb6⟩
    go_wp2_with fail
    rw [HP.out]
    exact ⟨by simp, vb_t HB5.out hb6⟩
  · have h1 := search_no L (fun s hs => by have := hr s hs; omega) s (by omega) _ w hT X0 hS he
    have H2 := hid_intro (fun w' (hb : Below w.heap.size w w') => rsearch_no L hr s hs _ w' _ (HSB.out w' hb) he)
    have H3 := hid_intro (fun w' (hb : Below w.heap.size w w') => pends_no L (fun s hs => by have := hr s hs; omega) s (by omega) _ w' (HTB.out w' hb) _ (HSB.out w' hb) he)
    have H4 := hid_intro (fun w' (hb : Below w.heap.size w w') => rends_no L hr s hs _ w' _ (HSB.out w' hb) he)
    obtain ⟨q, hq⟩ : ∃ q, readE L s = q := ⟨_, rfl⟩
    rw [hq] at h1 H2 H3 H4
    clear hP hT hg0 hS hr he hlL hs hq
    go_enter Tryz.func4, Tryz.ntmps4
    go_wp2_with fail
    refine h1.mono ?_; rintro e w1 ⟨rfl, hb1⟩
    have h2 := H2.out w1 hb1
    have HB1 := hid_intro hb1
    clear h1 hb1
    go_wp2_with fail
    refine h2.mono ?_; rintro e w2 ⟨rfl, hb2⟩
    have hb02 := vb_t HB1.out hb2
    have h3 := H3.out w2 hb02
    have HB2 := hid_intro hb02
    clear h2 hb2 hb02
    go_wp2_with fail
    refine h3.mono ?_; rintro e w3 ⟨rfl, hb3⟩
    have hb03 := vb_t HB2.out hb3
    have h4 := H4.out w3 hb03
    have HB3 := hid_intro hb03
    clear h3 hb3 hb03
    go_wp2_with fail
    refine h4.mono ?_; rintro e w4 ⟨rfl, hb4⟩
    have h5 := ints_any (.slice none 0 0) (.slice none 0 0) [] [] w4 (Or.inl ⟨rfl, none, 0, rfl⟩) (Or.inl ⟨rfl, none, 0, rfl⟩)
    rw [decide_eq_true rfl] at h5
    have HB4 := hid_intro (vb_t HB3.out hb4)
    clear h4 hb4
    go_wp2_with fail
    refine h5.mono ?_; rintro e w5 ⟨rfl, k, rfl⟩
    clear h5
    have h6 := HW1.out (w4.drewN k)
    go_wp2_with fail
    refine h6.mono ?_; rintro e w6 ⟨rfl, hw6⟩
    rw [hw6]
    have h7 := HW2.out (w4.drewN k)
    clear h6 hw6
    go_wp2_with fail
    refine h7.mono ?_; rintro e w6 ⟨rfl, hw6⟩
    rw [hw6]
    have HB5 := hid_intro (bel_drewN HB4.out k)
    have h8 := HHD.out (w4.drewN k) HB5.out
    clear h7 hw6
    go_wp2_with fail
    refine h8.mono ?_; rintro e w6 ⟨rfl, hb6⟩
    go_wp2_with fail
    rw [HP.out]
    exact ⟨by simp, vb_t HB5.out hb6⟩
end Go.Proofs.YtoinlmfodmgohaaGreatDoor
