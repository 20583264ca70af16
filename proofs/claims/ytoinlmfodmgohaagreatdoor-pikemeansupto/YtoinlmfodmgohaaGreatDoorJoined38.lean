/-
  Search. Conditions: the table of greatest code points holds its four numbers; at most 2^20 states, ranges of a state and bytes.
-/
import Derived.Test.YtoinlmfodmgohaaGreatDoorJoined25
import Derived.Test.YtoinlmfodmgohaaGreatDoorJoined37m
namespace Go.Proofs.YtoinlmfodmgohaaGreatDoor
open Go.RowKit Go.Maps
attribute [local go_sem] setCell_drewN alloc_drewN

theorem ent_at : ∀ args w, (callFunc 59 args).run Tryz.prog w = .ok (.enter 59 args) w := enters_of Tryz.func59 (by kernel_rfl) rfl
/-- What the follower answers at a place. -/
def AtR (s : Nat) (L : List ST) (t : List Int) (each : Bool) (p : Nat) (W0 : World) (en : Ending) (w' : World) : Prop :=
  ∃ vh' H, en = .returned vh' ∧ F0 w' (xOf s) (evOf s) L t (p + 1) vh' ∧ OwnI w' (s + 8) vh' H ∧ H.Nodup ∧ (∀ x ∈ H, InL L x) ∧ (∀ x, x ∈ H ↔ Rs L t each p x) ∧ But (xOf s) W0 w'
theorem x_of_ge {s b : Nat} (h : s + 8 ≤ b) : xOf s b := by unfold xOf; omega
theorem at_step {s : Nat} {L : List ST} {t : List Int} {p : Nat} {each : Bool} {vh : Value} {fo : Option Addr} {fc : Nat} {Fl : List Int} {W0 wr w2 : World} (hL : VS L) (hl : L.length ≤ 1048576) (hp : p ≤ 1048576) (hF0 : F0 wr (xOf s) (evOf s) L t p vh)
    (hof : OwnI wr (s + 8) (.slice fo Fl.length fc) Fl) (hdj : ∀ b, (Value.slice fo Fl.length fc).ownBlock = some b → vh.ownBlock ≠ some b) (hfr : ∀ y, y ∈ Fl ↔ FrN L t each p y) (hfl : Fl.length ≤ 1048576) (hea : p = 0 ∨ each = true) (hbt : But (xOf s) W0 wr) {g cap : Nat}
    (ho2 : OwnI w2 (s + 8) (.slice (some ⟨g, 0, none⟩) (Fl.length + 1) cap) (Fl ++ [0])) (hg2 : (wr.alloc (.cells #[.int .i64 0] 3)).grownBy w2 (Value.slice fo Fl.length fc).ownBlock) (hloc : (Value.slice fo Fl.length fc).ownBlock = some g ∨ wr.heap.size < g) :
    Calls Tryz.prog 59 #[.int .i64 (p : Int), .slice (some ⟨g, 0, none⟩) (Fl.length + 1) cap, .pointer (some ⟨s + 4, 0, none⟩), .pointer (some ⟨s + 6, 0, none⟩), .pointer (some ⟨s + 5, 0, none⟩), .pointer (some ⟨s + 7, 0, none⟩)] w2 (AtR s L t each p W0) := by
  have hb2 : But (xOf s) wr w2 := ((But.refl _ wr).alloc _).grown hg2 (fun b hb => Or.inl (x_of_ge (hof.lt hb).1))
  have hsz := hF0.fx.sz
  have e1 : (wr.alloc (.cells #[.int .i64 0] 3)).heap.size = wr.heap.size + 1 := by simp
  have hk : F0 w2 (xOf s) (evOf s) L t p vh := hF0.keep hb2 (fun b hb hlt => by
    have hne : some b ≠ (Value.slice fo Fl.length fc).ownBlock := by
      intro e
      rcases hb with hb | hb
      · have := (hof.lt e.symm).1
        have : b < s + 8 := hb
        omega
      · exact hdj b e.symm hb
    rw [hg2.block b (by rw [e1]; omega) hne]
    exact (vb_a (Below.refl _ wr) _).block b hlt)
  obtain ⟨lh, oh⟩ := hF0.oh
  have h := at_any (X := xOf s) (cb := s + 3) (pb := s + 6) (wb := s + 5) (hb := s + 4) (lb := s) (tb := s + 1) (fb := s + 7) (mb := s + 2) (B := s + 8) hL hl hp vh (.slice (some ⟨g, 0, none⟩) (Fl.length + 1) cap) (Fl ++ [0]) w2 hk ho2 (fun b hb => by
    simp only [Value.ownBlock, Option.some.injEq] at hb
    subst hb
    refine ⟨x_of_ge (ho2.lt rfl).1, ?_⟩
    rcases hloc with h | h
    · exact hdj _ h
    · intro h'
      have := (oh.lt h').2
      omega) (fun x hx => by
    rcases List.mem_append.1 hx with hx | hx
    · exact FrN_inl hL t each p x ((hfr x).1 hx)
    · simp at hx; subst hx; exact ⟨by omega, by have := hL.1; omega⟩) (by rw [List.length_append]; simp only [List.length_cons, List.length_nil]; omega)
  refine h.mono ?_
  rintro en w' ⟨vh', H, rfl, hF', oh', hnd, hin, hrc, hb'⟩
  refine ⟨vh', H, rfl, hF', oh', hnd, hin, fun x => ?_, hbt.trans (hb2.trans hb')⟩
  rw [hrc x, Rs_eq]
  refine Rch.congr (fun y => ?_) x
  rw [List.mem_append, hfr y]
  simp only [List.mem_cons, List.not_mem_nil, or_false]
  constructor
  · rintro (h | h)
    · exact Or.inr h
    · exact Or.inl ⟨h, hea⟩
  · rintro (h | h)
    · exact Or.inr h.1
    · exact Or.inl h
theorem dn_iff {L : List ST} {t : List Int} {each : Bool} {p : Nat} {H : List Int} (h : ∀ x, x ∈ H ↔ Rs L t each p x) : dnB L H = true ↔ Dn L t each p := by
  unfold dnB Dn
  rw [List.any_eq_true]
  exact ⟨fun ⟨x, h1, h2⟩ => ⟨x, (h x).1 h1, h2⟩, fun ⟨x, h1, h2⟩ => ⟨x, (h x).2 h1, h2⟩⟩
theorem nxt_iff {L : List ST} {t : List Int} {each : Bool} {p : Nat} {H : List Int} (h : ∀ x, x ∈ H ↔ Rs L t each p x) (y : Int) : y ∈ nxt L (ia t p) H ↔ FrN L t each (p + 1) y := by
  unfold nxt
  rw [List.mem_map]
  constructor
  · rintro ⟨z, hz, rfl⟩
    rw [List.mem_filter] at hz
    exact ⟨z, (h z).1 hz.1, hz.2, rfl⟩
  · rintro ⟨z, hz, hg, rfl⟩
    exact ⟨z, List.mem_filter.2 ⟨(h z).2 hz, hg⟩, rfl⟩
theorem ia_drop (t : List Int) (P : Nat) : ia (t.drop P) 0 = ia t P := by
  unfold ia; rw [List.getD_eq_getElem?_getD, List.getD_eq_getElem?_getD, List.getElem?_drop]; rfl
/-- What the loop keeps. -/
def SeaI (s : Nat) (L : List ST) (t : List Int) (W0 : World) (p n : Nat) (vf : Value) (wr : World) : Prop :=
  ∃ (vh : Value) (Fl : List Int), p ≤ t.length + 1 ∧ F0 wr (xOf s) (evOf s) L t p vh ∧ OwnI wr (s + 8) vf Fl ∧ (∀ b, vf.ownBlock = some b → vh.ownBlock ≠ some b) ∧ (p ≤ t.length → ∀ y, y ∈ Fl ↔ FrN L t true p y) ∧ Fl.length ≤ 1048576 ∧ Stp L t true p n ∧ (∀ q, q < p → ¬ Dn L t true q) ∧ But (xOf s) W0 wr
theorem sea_next {s : Nat} {L : List ST} {t : List Int} {W0 w4 w5 : World} {p n : Nat} {vh v5 : Value} {H : List Int} (hp : p < t.length) (hF4 : F0 w4 (xOf s) (evOf s) L t (p + 1) vh) (ho4 : OwnI w4 (s + 8) vh H) (hlen : H.length ≤ 1048576) (hrs : ∀ x, x ∈ H ↔ Rs L t true p x)
    (hst : Stp L t true (p + 1) (n + H.length)) (hnd : ¬ Dn L t true p) (hdn : ∀ q, q < p → ¬ Dn L t true q) (hb4 : But (xOf s) W0 w4) (ho5 : OwnI w5 w4.heap.size v5 (nxt L (ia t p) H)) (hb5 : Below w4.heap.size w4 w5) : SeaI s L t W0 (p + 1) (n + H.length) v5 w5 := by
  refine ⟨vh, nxt L (ia t p) H, by omega, hF4.keep (But.ofBelow hb5) (fun b _ hlt => hb5.block b hlt), ho5.mono hF4.fx.sz, fun b hb hb' => ?_, fun _ => nxt_iff hrs, Nat.le_trans (nxt_len _ _ _) hlen, hst, fun q hq => ?_, hb4.below hb5⟩
  · have h1 := (ho5.lt hb).1
    have h2 := (ho4.lt hb').2
    omega
  · by_cases e : q = p
    · rw [e]; exact hnd
    · exact hdn q (by omega)
theorem sea_last {s : Nat} {L : List ST} {t : List Int} {W0 w4 : World} {n : Nat} {vh : Value} {H : List Int} (hF4 : F0 w4 (xOf s) (evOf s) L t (t.length + 1) vh)
    (hst : Stp L t true (t.length + 1) (n + H.length)) (hnd : ¬ Dn L t true t.length) (hdn : ∀ q, q < t.length → ¬ Dn L t true q) (hb4 : But (xOf s) W0 w4) : SeaI s L t W0 (t.length + 1) (n + H.length) (.slice none 0 0) w4 := by
  refine ⟨vh, [], Nat.le_refl _, hF4, OwnI.nil _ _, fun b h => (by cases h), fun h => (by omega), Nat.zero_le _, hst, fun q hq => ?_, hb4⟩
  by_cases e : q = t.length
  · rw [e]; exact hnd
  · exact hdn q (by omega)
set_option maxRecDepth 100000 in
set_option maxHeartbeats 800000 in
theorem search_ok (L : List ST) (hlL : L.length ≤ 1048576) (hr : ∀ s ∈ L, s.r.length ≤ 1048576) (s : ByteArray) (hs : s.size ≤ 1048576) (lv : Value) (w : World) (hT : Tab w) (X0 : Nat → Prop) (hS : SI w X0 L lv) (hn : nfaB L = true) (hg : goodS s = true) :
    Calls Tryz.prog 12 #[lv, .string s] w fun e w' => ∃ b n, e = .returned (.tuple #[.bool b, .int .i64 ((n : Nat) : Int), .int .i64 0]) ∧ SrR L (ptsS s) b n ∧ Below w.heap.size w w' := by
  have hL := vs_of hn
  have hok : ∀ s ∈ L, s.ok := by obtain ⟨_, _, _, _, _, h, _⟩ := hS; exact h
  have hRS := rs_of hn hok hr
  have hread := read_ok L (fun s hs => by have := hr s hs; omega) s (by omega) lv w hT X0 hS hn hg
  have hlen := ptsS_len s
  generalize ptsS s = t at hread hlen ⊢
  obtain ⟨a1, c1, rfl⟩ : ∃ a1 c1, lv = .slice a1 L.length c1 := by obtain ⟨a1, c1, rfl, _⟩ := hS; exact ⟨a1, c1, rfl⟩
  obtain ⟨P, hP⟩ : ∃ P : Ending → World → Prop, P = fun e w' => ∃ b n, e = .returned (.tuple #[.bool b, .int .i64 ((n : Nat) : Int), .int .i64 0]) ∧ SrR L t b n ∧ Below w.heap.size w w' := ⟨_, rfl⟩
  rw [← hP]
  have HP := hid_intro hP
  have HS := hid_intro hS
  have HLN := hid_intro (show t.length ≤ 1048576 by omega)
  have HRS := hid_intro hRS
  have HL := hid_intro (And.intro hL hlL)
  have htI : (t.length : Int) ≤ 1048576 := by omega
  clear hP hS hn hg hT hs hr hok hRS hlen hL hlL
  go_enter Tryz.func12, Tryz.ntmps12
  go_wp2_with fail
  refine hread.mono ?_; rintro e w1 ⟨v, rfl, ho, hb1⟩
  obtain ⟨va, vc, rfl, hv1, hv2, hv3, hv4⟩ := ho.form
  have hS1 := HS.out.kept hb1
  have hI1 := ho.ii (fun _ => False) (fun _ _ h => h)
  have hst := f0_start hS1 hI1
  have hfo := pfollower_any a1 va L.length c1 t.length vc w1
  obtain ⟨W0, hW0⟩ : ∃ W0, wOf w1 (.slice a1 L.length c1) (.slice va t.length vc) = W0 := ⟨_, rfl⟩
  rw [hW0] at hst hfo
  have hSW : SI W0 (xOf w1.heap.size) L (.slice a1 L.length c1) := hS1.carry fun b _ h => ⟨hst.2.1.block b h, by unfold xOf; omega⟩
  have hTW : II W0 (xOf w1.heap.size) t (.slice va t.length vc) := hI1.carry fun b _ h => ⟨hst.2.1.block b h, by unfold xOf; omega⟩
  have hpl := places_any t (by have := HLN.out; omega) (.slice va t.length vc) W0 _ hTW
  have HF0 := hid_intro hst.1
  have HSW := hid_intro hSW
  have HTW := hid_intro hTW
  have HB0 := hid_intro (And.intro hb1 (vb_t hb1 hst.2.1))
  have HV := hid_intro (And.intro hv1 (And.intro hv3 hv4))
  clear hread ho hb1 hv1 hv2 hv3 hv4 hS1 hI1 hst hW0 hSW hTW
  go_wp2_with fail
  refine hfo.mono ?_; rintro e w2 ⟨rfl, hw2⟩
  rw [hw2]
  clear hfo hw2
  go_wp2_with fail
  refine hpl.mono ?_; rintro e w3 ⟨rfl, hw3⟩
  rw [hw3]
  clear hpl hw3
  go_wp2_with fail
  go_loopg [10, 11, 28] (t.length + 1) (fun mm s10 s11 s28 wr => ∃ (p n : Nat) (vf : Value), s28 = .int .i64 (p : Int) ∧ s10 = vf ∧ s11 = .int .i64 (n : Int) ∧ mm = t.length + 1 - p ∧ Hid (SeaI w1.heap.size L t W0 p n vf wr))
  case atStart => exact ⟨0, 0, _, rfl, rfl, rfl, rfl, ⟨_, [], Nat.zero_le _, HF0.out, OwnI.nil _ _, (fun b h => by cases h), (fun _ y => by simp [FrN]), Nat.zero_le _, rfl, (fun q h => by omega), But.refl _ _⟩⟩
  case round =>
    obtain ⟨p, n, vf, rfl, rfl, rfl, rfl, HI⟩ := hrel
    by_cases hlt : (p : Int) < (t.length : Int) + 1
    · obtain ⟨vh, Fl, hpn, hF0, hof, hdj, hfr, hfl, hst, hdn, hbt⟩ := HI.out
      obtain ⟨fo, fc, hvf, _⟩ := hof.form
      subst hvf
      have hstle := hst.le HL.out.1
      have hnb : n ≤ 1048576 * 1048576 := Nat.le_trans hstle (Nat.mul_le_mul (by have := HLN.out; omega) HL.out.2)
      have HAS := hid_intro (fun w2 g cap => at_step (w2 := w2) (g := g) (cap := cap) HL.out.1 HL.out.2 (by have := HLN.out; omega) hF0 hof hdj (hfr (by omega)) hfl (Or.inr rfl) hbt)
      have HO := hid_intro hof
      have HSZ := hid_intro (show w1.heap.size + 8 ≤ wr.heap.size from hF0.fx.sz)
      have HFL := hid_intro (show Fl.length ≤ 1099511627776 by omega)
      have HZ := hid_intro (show I64 0 from ⟨by omega, by omega⟩)
      have HQ := hid_intro (And.intro hst (And.intro hdn (And.intro hnb hpn)))
      have HLT := hid_intro hlt
      clear hF0 hof hdj hfr hfl hst hdn hbt hstle hnb hpn
      go_wp2_with (first | (at_builtin; refine wpList_append_i rfl _ _ rfl (w1.heap.size + 8) (.slice fo Fl.length fc) Fl rfl HO.out HSZ.out HFL.out 0 HZ.out _ rfl rfl ?_; intro g cap w2 ho2 hg2 hloc; have H1 := hid_intro (HAS.out w2 g cap ho2 hg2 hloc); clear ho2 hg2 hloc) | (refine wpList_clo rfl _ _ _ _ rfl _ _ rfl ent_at _ _ rfl rfl (AtR w1.heap.size L t true p W0) ?_ ?_ ?_; exact H1.out; rotate_left; (intro e w' h; obtain ⟨vh', H, e1, _⟩ := h; exact ⟨_, e1⟩); intro v2 w3 hs2; obtain ⟨vh', H, hv2, hF3, oh3, hnd, hin3, hrs, hb3⟩ := hs2; injection hv2 with hv2; subst hv2; obtain ⟨ho3, hc3, hvh, _⟩ := oh3.form; subst hvh; have HF3 := hid_intro hF3; have HO3 := hid_intro oh3; have HR3 := hid_intro (And.intro hnd (And.intro hin3 hrs)); have HB3 := hid_intro hb3; have hHl : (H.length : Int) ≤ 1048576 := by { have := pig _ _ hnd hin3; have := HL.out.2; omega }; have hnI : (n : Int) + (H.length : Int) ≤ 9223372036854775807 := by { have := HQ.out.2.2.1; omega }; clear hF3 oh3 hnd hin3 hrs hb3))
      have hdone := done_any L H (by omega) HR3.out.2.1 (.slice a1 L.length c1) (.slice ho3 H.length hc3) w3 _ (fun _ => False) (HSW.out.but HB3.out) (HO3.out.ii _ (fun _ _ h => h))
      refine hdone.mono ?_; rintro e w4 ⟨rfl, hb4⟩
      have hcnt : Stp L t true (p + 1) (n + H.length) := ⟨n, H.length, HQ.out.1, ⟨H, HR3.out.1, HR3.out.2.2, rfl⟩, rfl⟩
      have HCN := hid_intro hcnt
      have hb04 : But (xOf w1.heap.size) W0 w4 := HB3.out.below hb4
      have HB4 := hid_intro hb04
      have HW4 := hid_intro (show Below w.heap.size w w4 from But.ahead HB0.out.2 hb04 (fun k hk => by have := HB0.out.1.size; unfold xOf at hk; omega))
      have hF4 : F0 w4 (xOf w1.heap.size) (evOf w1.heap.size) L t (p + 1) (.slice ho3 H.length hc3) := HF3.out.keep (But.ofBelow hb4) (fun b _ hlt => hb4.block b hlt)
      have HF4 := hid_intro hF4
      have HO4 := hid_intro (HO3.out.bel hb4)
      have HI4 := hid_intro (HTW.out.but hb04)
      have HS4 := hid_intro (HSW.out.but hb04)
      clear hdone hcnt hb04 hF4 hb4 HAS HO HSZ HFL HZ H1
      cases hd : dnB L H
      · have HND : Hid (¬ Dn L t true p) := hid_intro (fun h => by have := (dn_iff HR3.out.2.2).2 h; rw [hd] at this; cases this)
        clear hd
        by_cases hpt : p < t.length
        · obtain ⟨gt, hgt⟩ := HV.out.2.1 (by omega)
          subst hgt
          have hII := HI4.out.drop hpt
          rw [Nat.zero_add] at hII
          have hnx := pnext_any L HRS.out H (by omega) HR3.out.2.1 (t.drop p) (by rw [List.length_drop]; omega) (.slice a1 L.length c1) (.slice ho3 H.length hc3) (.slice (some ⟨gt, p, none⟩) (t.length - p) (vc - p)) w4 (xOf w1.heap.size) (fun _ => False) (xOf w1.heap.size) HS4.out (HO4.out.ii _ (fun _ _ h => h)) hII
          rw [ia_drop] at hnx
          have j1 : (p : Int) ≤ (t.length : Int) := by omega
          have j2 : (t.length : Int) ≤ (vc : Int) := by have := HV.out.1; omega
          have HPT := hid_intro hpt
          clear hII hpt
          have HNX := hid_intro hnx
          have j4 : ¬ vc = p := by have := HV.out.1; have := HPT.out; omega
          clear hnx
          go_wp2_with fail
          refine HNX.out.mono ?_; rintro e w5 ⟨v5, rfl, ho5, hb5⟩
          have HN := hid_intro (sea_next HPT.out HF4.out HO4.out (by omega) HR3.out.2.2 HCN.out HND.out HQ.out.2.1 HB4.out ho5 hb5)
          clear HNX ho5 hb5 j1 j2 j4
          go_wp2_with fail
          go_roundg (t.length + 1 - (p + 1))
          case measure => have := HPT.out; omega
          case rel => exact ⟨p + 1, n + H.length, _, by simp, rfl, by simp, rfl, HN⟩
        · obtain rfl : p = t.length := by have := HLT.out; omega
          have HN := hid_intro (sea_last (n := n) (H := H) HF4.out HCN.out HND.out HQ.out.2.1 HB4.out)
          have HNIL := hid_intro (fun ao c => pnext_nil (.slice a1 L.length c1) (.slice ho3 H.length hc3) ao c w4)
          have j2 : (t.length : Int) ≤ (vc : Int) := by have := HV.out.1; omega
          clear hpt
          cases va with
          | none =>
            go_wp2_with fail
            refine (HNIL.out _ _).mono ?_; rintro e w5 ⟨rfl, hw5⟩
            rw [hw5]
            clear hw5
            go_wp2_with fail
            go_roundg (t.length + 1 - (t.length + 1))
            case measure => omega
            case rel => exact ⟨t.length + 1, n + H.length, _, by simp, rfl, by simp, rfl, HN⟩
          | some ad =>
            obtain ⟨gg, oo, uu⟩ := ad
            obtain ⟨rfl, rfl⟩ := HV.out.2.2 gg oo uu rfl
            by_cases j4 : vc = t.length
            · subst j4
              go_wp2_with fail
              refine (HNIL.out _ _).mono ?_; rintro e w5 ⟨rfl, hw5⟩
              rw [hw5]
              clear hw5
              go_wp2_with fail
              go_roundg (t.length + 1 - (t.length + 1))
              case measure => omega
              case rel => exact ⟨t.length + 1, n + H.length, _, by simp, rfl, by simp, rfl, HN⟩
            · go_wp2_with fail
              refine (HNIL.out _ _).mono ?_; rintro e w5 ⟨rfl, hw5⟩
              rw [hw5]
              clear hw5
              go_wp2_with fail
              go_roundg (t.length + 1 - (t.length + 1))
              case measure => omega
              case rel => exact ⟨t.length + 1, n + H.length, _, by simp, rfl, by simp, rfl, HN⟩
      · have HDD := hid_intro ((dn_iff HR3.out.2.2).1 hd)
        clear hd
        go_wp2_with fail
        refine bodyPost_ret (v := .tuple #[.bool true, .int .i64 ((n : Int) + (H.length : Int)), .int .i64 0]) (by simp [results, Tryz.results12, go_sem]) rfl ?_
        rw [HP.out]
        exact ⟨true, n + H.length, by simp, ⟨p, by have := HLT.out; omega, HCN.out, Or.inl ⟨rfl, HDD.out, HQ.out.2.1⟩⟩, HW4.out⟩
    · have hpe : p = t.length + 1 := by obtain ⟨vh, Fl, hpn, _⟩ := HI.out; omega
      go_wp2_with fail
      refine bodyPost_ret (v := .tuple #[.bool false, .int .i64 ((n : Int)), .int .i64 0]) (by simp [results, Tryz.results12, go_sem]) rfl ?_
      rw [HP.out]
      obtain ⟨vh, Fl, hpn, hF0, hof, hdj, hfr, hfl, hst, hdn, hbt⟩ := HI.out
      refine ⟨false, n, rfl, ⟨t.length, Nat.le_refl _, hpe ▸ hst, Or.inr ⟨rfl, rfl, fun q hq => hdn q (by omega)⟩⟩, ?_⟩
      exact But.ahead HB0.out.2 hbt (fun k hk => by have := HB0.out.1.size; unfold xOf at hk; omega)
end Go.Proofs.YtoinlmfodmgohaaGreatDoor
