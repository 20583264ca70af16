/-
  What follows some states at the next place. Conditions: there is room.
  The reader's small steps: ended, peek, next, take, need. No condition.
-/
import Derived.Test.YtoinlmfodmgohaaGreatDoorJoined8
import Derived.Deep.RegionHeld3
import Derived.BigQuiet
import Derived.Test.YtoinlmfodmgohaaGreatDoorJoined4
namespace Go.Proofs.YtoinlmfodmgohaaGreatDoor
open Go.RowKit
attribute [local go_sem] setCell_drewN alloc_drewN

def goB (L : List ST) (p x : Int) : Bool := decide ((sx L x).k = 1) && hasB (sx L x).r p
/-- What follows. -/
def nxt (L : List ST) (p : Int) (H : List Int) : List Int := (H.filter (goB L p)).map fun x => (sx L x).a
theorem nxt_take {L : List ST} {p : Int} {H : List Int} {i : Nat} (hi : i < H.length) : nxt L p (H.take (i + 1)) = if goB L p (ia H i) = true then nxt L p (H.take i) ++ [(sx L (ia H i)).a] else nxt L p (H.take i) := by
  have e : ia H i = H[i] := by unfold ia; rw [List.getD_eq_getElem?_getD, List.getElem?_eq_getElem hi]; rfl
  rw [List.take_add_one, List.getElem?_eq_getElem hi, e]
  unfold nxt
  rw [List.filter_append, List.map_append]
  by_cases h : goB L p H[i] = true
  · rw [if_pos h]; simp [h]
  · rw [if_neg h]; simp [h]
theorem nxt_len (L : List ST) (p : Int) (H : List Int) : (nxt L p H).length ≤ H.length := by
  unfold nxt; rw [List.length_map]; exact List.length_filter_le _ _
/-- The states' sets are sets. -/
def RS (L : List ST) : Prop := ∀ s ∈ L, s.ok ∧ s.r.length ≤ 1048576 ∧ ∀ i, i < s.r.length → rgAt s.r i
set_option maxRecDepth 100000 in
set_option maxHeartbeats 6400000 in
theorem pnext_any (L : List ST) (hRS : RS L) (H : List Int) (hH : H.length ≤ 1048576) (hin : ∀ x ∈ H, InL L x) (rest : List Int) (hrest : 0 < rest.length) (lv hv rv : Value) (w : World) (X X' X2 : Nat → Prop) (hS : SI w X L lv) (hI : II w X' H hv) (hT : II w X2 rest rv) :
    Calls Tryz.prog 35 #[lv, hv, rv] w fun e w' => ∃ v, e = .returned v ∧ OwnI w' w.heap.size v (nxt L (ia rest 0) H) ∧ Below w.heap.size w w' := by
  have hS0 := hS
  have hI0 := hI
  obtain ⟨ao, cap, rfl, hc, hcm, hok, hlie⟩ := hI
  obtain ⟨bt, ot, ct, e, ht0⟩ := hT.at hrest
  have hlenL : ∃ la lc, lv = .slice la L.length lc := by obtain ⟨la, lc, rfl, _⟩ := hS; exact ⟨la, lc, rfl⟩
  obtain ⟨la, lc, rfl⟩ := hlenL
  obtain ⟨p, hp⟩ : ∃ p, ia rest 0 = p := ⟨_, rfl⟩
  rw [hp] at ht0 ⊢
  rw [Nat.add_zero] at ht0
  obtain ⟨N, hN⟩ : ∃ N, rest.length = N := ⟨_, rfl⟩
  rw [hN] at e hrest
  subst e
  have hlI : (H.length : Int) ≤ 1048576 := by omega
  have hNI : (0 : Int) < (N : Int) := by omega
  have hNn : ¬ (N : Int) = 0 := by omega
  have hNz : ¬ N = 0 := by omega
  have hN0 : 0 < N := by omega
  have hNb : ((N : Int) == 0) = false := by simp; omega
  obtain ⟨P, hP⟩ : ∃ P : Ending → World → Prop, P = fun e w' => ∃ v, e = .returned v ∧ OwnI w' w.heap.size v (nxt L p H) ∧ Below w.heap.size w w' := ⟨_, rfl⟩
  rw [← hP]
  have HP := hid_intro hP
  have HAT : Hid (∀ w' i, Below w.heap.size w w' → i < H.length → ∃ b off, ao = some ⟨b, off, none⟩ ∧ w'.cell? ⟨b, off + i, none⟩ = some (.int .i64 (ia H i))) := hid_intro (fun w' i hb hi => by
    obtain ⟨b, off, cap', e, h1⟩ := (hI0.kept hb).at hi
    injection e with e _ _
    exact ⟨b, off, e, h1⟩)
  have HST : Hid (∀ w', Below w.heap.size w w' → SI w' X L (.slice la L.length lc)) := hid_intro (fun w' hb => hS0.kept hb)
  have hbt := World.block_lt_of_cell? w _ ht0
  have HT0 : Hid (∀ w', Below w.heap.size w w' → w'.cell? ⟨bt, ot, none⟩ = some (.int .i64 p)) := hid_intro (fun w' hb => (hb.cell (p := ⟨bt, ot, none⟩) hbt).trans ht0)
  have HIN := hid_intro hin
  have HRS := hid_intro hRS
  have HH := hid_intro hH
  clear hP hI0 hS0 hS hlie hok hcm hc hT ht0 hin hRS hp hN hrest hbt hH
  go_enter Tryz.func35, Tryz.ntmps35
  go_wp2_with fail
  go_loopg [7, 16] H.length (fun mm s7 s16 wr => ∃ (i : Nat) (v : Value), s7 = v ∧ s16 = .int .i64 (i : Int) ∧ mm = H.length - i ∧ Hid (i ≤ H.length ∧ OwnI wr w.heap.size v (nxt L p (H.take i)) ∧ Below w.heap.size w wr))
  case atStart => exact ⟨0, _, rfl, rfl, by omega, Nat.zero_le _, OwnI.nil _ _, Below.refl _ _⟩
  case round =>
    obtain ⟨i, v, rfl, rfl, rfl, HI⟩ := hrel
    obtain ⟨vo, vc, hvf, _⟩ := HI.out.2.1.form
    by_cases hlt : (i : Int) < (H.length : Int)
    · have hi : i < H.length := by omega
      obtain ⟨b, off, rfl, q0⟩ := HAT.out wr i HI.out.2.2 hi
      have hx := HIN.out _ (ia_mem hi)
      obtain ⟨n, hn⟩ : ∃ n : Nat, ia H i = (n : Int) := ⟨(ia H i).toNat, by have := hx.1; omega⟩
      rw [hn] at q0 hx
      obtain ⟨bl, ol, capl, rv, hlv, hc1, hc2, hxb, hblt, ⟨g0, g1, g2, g3⟩, hri⟩ := (HST.out wr HI.out.2.2).cells hx
      injection hlv with hla hlc1 hlc2
      subst hla
      subst hlc2
      rw [Int.toNat_natCast] at g0 g1 g2 g3
      have hrs := HRS.out (sx L (n : Int)) (sa_mem (by have := hx.2; have := hx.1; omega))
      obtain ⟨ra', rc, rfl, hrr⟩ := id hri
      have hnL : (n : Int) < (L.length : Int) := hx.2
      obtain ⟨V, hV⟩ : ∃ V, wr.alloc (.cells #[.int .i64 (sx L (n : Int)).k, .slice ra' (sx L (n : Int)).r.length rc, .int .i64 (sx L (n : Int)).a, .int .i64 (sx L (n : Int)).b] 94) = V := ⟨_, rfl⟩
      have hbV : Below wr.heap.size wr V := hV ▸ vb_a (Below.refl _ _) _
      have kV : Bk V wr.heap.size #[.int .i64 (sx L (n : Int)).k, .slice ra' (sx L (n : Int)).r.length rc, .int .i64 (sx L (n : Int)).a, .int .i64 (sx L (n : Int)).b] := hV ▸ Bk.new _ _ _
      have HKV := hid_intro kV
      have HV := hid_intro hV
      have HBV := hid_intro hbV
      have HHAS := hid_intro (fun w' (hb : Below V.heap.size V w') => has_any (sx L (n : Int)).r (by have := hrs.2.1; omega) hrs.2.2 _ p w' X ((hri.kept hbV).kept hb))
      have HX := hid_intro (And.intro hx (And.intro hi hn))
      have HOK := hid_intro hrs.1
      have HTV := hid_intro (fun w' (hb : Below V.heap.size V w') => HT0.out w' (vb_t (HI.out.2.2) (vb_t hbV hb)))
      clear hrr hri hrs hbV kV hV hx hc1 hc2 hxb hblt hi hn hvf
      have HS : Hid (∀ w', Below V.heap.size V w' → w'.cell? ⟨wr.heap.size, 0, none⟩ = some (.int .i64 (sx L (n : Int)).k) ∧ w'.cell? ⟨wr.heap.size, 1, none⟩ = some (.slice ra' (sx L (n : Int)).r.length rc) ∧ w'.cell? ⟨wr.heap.size, 2, none⟩ = some (.int .i64 (sx L (n : Int)).a) ∧ w'.cell? ⟨bt, ot, none⟩ = some (.int .i64 p)) := hid_intro (fun w' hb => ⟨(HKV.out.bel hb).c4.1, (HKV.out.bel hb).c4.2.1, (HKV.out.bel hb).c4.2.2.1, HTV.out w' hb⟩)
      go_wp2_with fail
      rw [HV.out]
      clear q0 g0 g1 g2 g3
      by_cases hk : (sx L (n : Int)).k = 1
      · have hgo : goB L p (n : Int) = hasB (sx L (n : Int)).r p := by unfold goB; rw [decide_eq_true hk, Bool.true_and]
        have HGO := hid_intro hgo
        clear hgo
        go_region_held3 (fun w' => w'.cell? ⟨wr.heap.size, 0, none⟩ = some (.int .i64 (sx L (n : Int)).k) ∧ w'.cell? ⟨wr.heap.size, 1, none⟩ = some (.slice ra' (sx L (n : Int)).r.length rc) ∧ w'.cell? ⟨wr.heap.size, 2, none⟩ = some (.int .i64 (sx L (n : Int)).a) ∧ w'.cell? ⟨bt, ot, none⟩ = some (.int .i64 p)) (first | (refine HS.out _ ?_; with_reducible repeat (first | exact Below.refl _ _ | refine vb_d ?_ | refine vb_t ?_ hb3)) | fail) (first | (go_at_call 62; refine (HHAS.out _ ?_).mono ?_; (with_reducible repeat (first | exact Below.refl _ _ | refine vb_d ?_)); rintro e w3 ⟨rfl, hb3⟩) | fail)
        replace hb3 : Below V.heap.size V w3 := vb_t (vb_d (Below.refl _ _)) hb3
        have hbw : Below w.heap.size w w3 := vb_t HI.out.2.2 (vb_t HBV.out hb3)
        have how := (HI.out.2.1.bel HBV.out).bel hb3
        obtain ⟨s0, s1, s2, s3⟩ := (HKV.out.bel hb3).c4
        cases hh : hasB (sx L (n : Int)).r p
        · have HF := hid_intro (And.intro how hbw)
          have HHH := hid_intro hh
          clear how hbw hb3
          clear hh
          go_wp2_with fail
          go_roundg (H.length - (i + 1))
          case measure => have := HX.out.2.1; omega
          case rel =>
            refine ⟨i + 1, _, rfl, by simp, rfl, HX.out.2.1, ?_, HF.out.2⟩
            rw [nxt_take HX.out.2.1, HX.out.2.2, if_neg (by rw [HGO.out, HHH.out]; exact Bool.false_ne_true)]
            exact HF.out.1
        · have HF := hid_intro (And.intro how hbw)
          have HHH := hid_intro hh
          have HSZ := hid_intro hbw.size
          have HLN := hid_intro (show (nxt L p (H.take i)).length ≤ 1099511627776 by have := nxt_len L p (H.take i); rw [List.length_take] at this; have := HH.out; omega)
          clear how hbw hb3
          clear hh
          go_wp2_with (at_builtin; refine wpList_append_i rfl _ _ rfl w.heap.size _ (nxt L p (H.take i)) rfl HF.out.1 HSZ.out HLN.out (sx L (n : Int)).a HOK.out.2.1 _ rfl rfl ?_; intro g cap w5 ho5 hg5 hloc; have HO5 := hid_intro ho5; have HG5 := hid_intro hg5; clear ho5 hg5 hloc)
          go_roundg (H.length - (i + 1))
          case measure => have := HX.out.2.1; omega
          case rel =>
            refine ⟨i + 1, _, rfl, by simp, rfl, HX.out.2.1, ?_, ?_⟩
            · rw [nxt_take HX.out.2.1, HX.out.2.2, if_pos (by rw [HGO.out, HHH.out])]
              exact HO5.out
            · refine Below.grown (HF.out.2.alloc HSZ.out _) HG5.out (Nat.le_trans HSZ.out (by simp)) ?_
              intro kk ek
              exact (HF.out.1.lt ek).1
      · have hd : decide ((sx L (n : Int)).k = 1) = false := decide_eq_false hk
        obtain ⟨s0, s1, s2, s3⟩ := HKV.out.c4
        have HGO : Hid (goB L p (n : Int) = false) := hid_intro (by unfold goB; rw [hd]; rfl)
        go_quiet (fail)
        have hbw : Below w.heap.size w (V.drewN nq) := vb_t HI.out.2.2 (vb_t HBV.out (But.refl (fun _ => False) V |>.drewN nq |> fun h => ⟨h.os, h.tape, h.output, h.size, fun b hb => h.block b hb (fun e => e)⟩))
        have HF := hid_intro (And.intro (show OwnI (V.drewN nq) w.heap.size u7 (nxt L p (H.take i)) from (HI.out.2.1.bel HBV.out).blk (fun _ _ => rfl)) hbw)
        clear hbw
        go_wp2_with fail
        go_roundg (H.length - (i + 1))
        case measure => have := HX.out.2.1; omega
        case rel =>
          refine ⟨i + 1, _, rfl, by simp, rfl, HX.out.2.1, ?_, HF.out.2⟩
          rw [nxt_take HX.out.2.1, HX.out.2.2, if_neg (by rw [HGO.out]; exact Bool.false_ne_true)]
          exact HF.out.1
    · obtain rfl : i = H.length := by have := HI.out.1; omega
      subst hvf
      go_wp2_with fail
      rw [HP.out]
      exact ⟨_, rfl, by have := HI.out.2.1; rw [List.take_length] at this; exact this, HI.out.2.2⟩
end Go.Proofs.YtoinlmfodmgohaaGreatDoor

namespace Go.Proofs.YtoinlmfodmgohaaGreatDoor
open Go.RowKit
attribute [local go_sem] setCell_drewN alloc_drewN

theorem But.setr {rb o : Nat} {a w : World} (h : But (· = rb) a w) (u : Value) : But (· = rb) a (w.setCell ⟨rb, o, none⟩ u) := h.set (Or.inl rfl) u
/-- What a step that only reads leaves. -/
theorem RD.drew {w : World} {rb : Nat} {l : List Int} {g : Int} (h : RD w rb l g) : RD w.drew rb l g := h.below (vb_d (Below.refl _ _))

set_option maxRecDepth 100000 in
set_option maxHeartbeats 800000 in
theorem ended_any (w : World) (rb : Nat) (l : List Int) (g : Int) (h : RD w rb l g) :
    Calls Tryz.prog 95 #[.pointer (some ⟨rb, 0, none⟩)] w fun r w' => r = .returned (.bool l.isEmpty) ∧ Below w.heap.size w w' := by
  obtain ⟨ao, n, cap, a, c0, c1, c2, fr, h1, h2, h3, h4, h5, h6⟩ := h
  have hd : ((a : Int) == (n : Int)) = l.isEmpty := by
    cases l with
    | nil => simp at h1 ⊢; omega
    | cons c l => simp at h1 ⊢; omega
  clear h6 h4 h1
  go_enter Tryz.func95, Tryz.ntmps95
  go_wp2_with fail
  go_region
  all_goals
    go_wp2_with fail
    go_ret
    exact ⟨rfl, vb_d (Below.refl _ _)⟩

set_option maxRecDepth 100000 in
set_option maxHeartbeats 800000 in
theorem peek_any (w : World) (rb : Nat) (l : List Int) (g : Int) (i : Nat) (hi : i ≤ 4096) (h : RD w rb l g) :
    Calls Tryz.prog 137 #[.pointer (some ⟨rb, 0, none⟩), .int .i64 (i : Int)] w fun r w' => r = .returned (.int .i64 (pk l i)) ∧ Below w.heap.size w w' := by
  obtain ⟨ao, n, cap, a, c0, c1, c2, fr, h1, h2, h3, h4, h5, h6⟩ := h
  have hw : IntKind.i64.wrap ((a : Int) + (i : Int)) = (a : Int) + (i : Int) := by simp [IntKind.wrap, IntKind.bits, IntKind.signed]; omega
  by_cases hlt : i < l.length
  · rcases h6 with h6 | ⟨pb, po, rfl, hne, h7⟩
    · subst h6; simp at hlt
    have hc := h7 i hlt
    have hI : (a : Int) + (i : Int) < (n : Int) := by omega
    have h0 : (0 : Int) ≤ (a : Int) + (i : Int) := by omega
    have hd : decide ((n : Int) ≤ (a : Int) + (i : Int)) = false := decide_eq_false (by omega)
    generalize pk l i = q at *
    clear h7 h4 h1 hlt h3 hi
    go_enter Tryz.func137, Tryz.ntmps137
    go_wp2_with fail
    go_region
    go_wp2_with fail
    go_region
    all_goals
      go_wp2_with fail
      go_ret
      exact ⟨rfl, vb_d (vb_d (Below.refl _ _))⟩
  · rw [pk_out (by omega)]
    have hd : decide ((n : Int) ≤ (a : Int) + (i : Int)) = true := decide_eq_true (by omega)
    clear h6 h4 h1 hlt h3 hi
    go_enter Tryz.func137, Tryz.ntmps137
    go_wp2_with fail
    go_region
    go_wp2_with fail
    all_goals
      go_ret
      exact ⟨rfl, vb_d (Below.refl _ _)⟩

set_option maxRecDepth 100000 in
set_option maxHeartbeats 800000 in
theorem next_ok (w : World) (rb : Nat) (c : Int) (l : List Int) (g : Int) (h : RD w rb (c :: l) g) :
    Calls Tryz.prog 145 #[.pointer (some ⟨rb, 0, none⟩)] w fun r w' => r = .returned (.int .i64 c) ∧ But (· = rb) w w' ∧ RD w' rb l g := by
  have he := ended_any w rb (c :: l) g h
  go_enter Tryz.func145, Tryz.ntmps145
  go_wp2_with fail
  refine he.mono ?_
  rintro r w1 ⟨rfl, hb1⟩
  have h' := h.below hb1
  have HB := hid_intro hb1
  have HH := hid_intro h'
  obtain ⟨ao, n, cap, a, c0, c1, c2, fr, h1, h2, h3, h4, h5, h6⟩ := h'
  rcases h6 with h6 | ⟨pb, po, rfl, hne, h7⟩
  · simp at h6
  have hne2 : pb ≠ rb := by omega
  have hc := h7 0 (by simp)
  have ff := fr 1
  have hcc : pk (c :: l) 0 = c := rfl
  rw [hcc, Nat.add_zero] at hc
  have hn : (a : Int) + 1 ≤ (n : Int) := by simp at h1; omega
  have hn2 : (n : Int) ≤ 4096 := by omega
  have hw : IntKind.i64.wrap ((a : Int) + 1) = (a : Int) + 1 := by simp [IntKind.wrap, IntKind.bits, IntKind.signed]; omega
  have hw2 : IntKind.i64.wrap (a : Int) = (a : Int) := by simp [IntKind.wrap, IntKind.bits, IntKind.signed]; omega
  have hlt : (a : Int) < (n : Int) := by omega
  have HA := hid_intro c1
  clear h7 h4 h1 h3 h he hcc fr hn2 hb1
  go_wp2_with fail
  go_region
  all_goals
    go_wp2_with fail
    go_ret
    refine ⟨rfl, (But.setr (But.ofBelow HB.out) _).drew, ?_⟩
    exact (HH.out.adv 1 (by simp) a HA.out _ (by omega)).below (vb_d (Below.refl _ _))

set_option maxRecDepth 100000 in
set_option maxHeartbeats 800000 in
theorem next_no (w : World) (rb : Nat) (g : Int) (h : RD w rb [] g) :
    Calls Tryz.prog 145 #[.pointer (some ⟨rb, 0, none⟩)] w fun r w' => r = stopX ∧ But (· = rb) w w' := by
  have he := ended_any w rb [] g h
  clear h
  go_enter Tryz.func145, Tryz.ntmps145
  go_wp2_with fail
  refine he.mono ?_
  rintro r w1 ⟨rfl, hb1⟩
  go_wp2_with fail
  exact ⟨rfl, rfl, But.ofBelow hb1⟩

/-- A text's bytes as numbers. -/
def ints (s : ByteArray) : List Int := s.data.toList.map fun c => ((c.toNat : Nat) : Int)
/-- What is left behind a beginning, if it stands there. -/
def rest (s l : List Int) : List Int := if startsW s l = true then l.drop s.length else l
theorem startsW_iff : ∀ (s l : List Int), startsW s l = true ↔ s.length ≤ l.length ∧ ∀ i, i < s.length → pk l i = pk s i
  | [], l => by simp [startsW]
  | a :: s, [] => by simp [startsW]
  | a :: s, b :: l => by
    simp only [startsW, Bool.and_eq_true, beq_iff_eq, startsW_iff s l, List.length_cons]
    constructor
    · rintro ⟨rfl, h1, h2⟩
      refine ⟨by omega, fun i hi => ?_⟩
      cases i with
      | zero => rfl
      | succ i => exact h2 i (by omega)
    · rintro ⟨h1, h2⟩
      exact ⟨h2 0 (by omega), by omega, fun i hi => h2 (i + 1) (by omega)⟩
theorem ints_len (s : ByteArray) : (ints s).length = s.size := by unfold ints; rw [List.length_map]; rfl
theorem ints_at (s : ByteArray) (i : Nat) (h : i < s.size) : pk (ints s) i = ((s[i]'h).toNat : Int) := by
  unfold pk ints
  have h2 : s.data.toList[i]? = some (s[i]'h) := by rw [List.getElem?_eq_getElem h]; rfl
  rw [List.getD_eq_getElem?_getD, List.getElem?_map, h2]
  rfl
set_option maxRecDepth 100000 in
set_option maxHeartbeats 1600000 in
theorem take_any (w : World) (rb : Nat) (l : List Int) (g : Int) (s : ByteArray) (hs : s.size ≤ 4096) (h : RD w rb l g) :
    Calls Tryz.prog 122 #[.pointer (some ⟨rb, 0, none⟩), .string s] w fun r w' => r = .returned (.bool (startsW (ints s) l)) ∧ But (· = rb) w w' ∧ RD w' rb (rest (ints s) l) g := by
  have hsI : (s.size : Int) ≤ 4096 := by omega
  have HH := hid_intro h
  go_enter Tryz.func122, Tryz.ntmps122
  go_wp2_with fail
  go_loopg [8] s.size (fun m s8 wr => ∃ k : Nat, k ≤ s.size ∧ m = s.size - k ∧ s8 = .int .i64 (k : Int) ∧ Hid (∀ i, i < k → pk l i = pk (ints s) i) ∧ Below w.heap.size w wr)
  case atStart => exact ⟨0, Nat.zero_le _, rfl, rfl, fun i hi => absurd hi (by omega), Below.refl _ _⟩
  case round =>
    obtain ⟨k, hk, rfl, rfl, HP, hb⟩ := hrel
    by_cases hlt : k < s.size
    · have hp := fun w' (hb' : Below wr.heap.size wr w') => peek_any w' rb l g k (by omega) (h.below (vb_t hb hb'))
      have hI : (k : Int) < (s.size : Int) := by omega
      have hch : ∀ hh, ((s[k]'hh).toNat : Int) = pk (ints s) k := fun hh => (ints_at s k hh).symm
      have HB := hid_intro hb
      have hwq : IntKind.i64.wrap (pk (ints s) k) = pk (ints s) k := by
        rw [ints_at s k hlt]
        have := UInt8.toNat_lt (s[k]'hlt)
        simp [IntKind.wrap, IntKind.bits, IntKind.signed]; omega
      have hstart : pk l k ≠ pk (ints s) k → startsW (ints s) l = false := fun hne => by
        rw [Bool.eq_false_iff]
        intro h
        exact hne (((startsW_iff _ _).1 h).2 k (by rw [ints_len]; exact hlt))
      cases he : (pk l k != pk (ints s) k)
      · have HQ : Hid (pk l k = pk (ints s) k) := hid_intro (by simpa using he)
        have HP2 : Hid (∀ i, i < k + 1 → pk l i = pk (ints s) i) := fun i hi => by
          by_cases e : i = k
          · rw [e]; exact HQ.out
          · exact HP.out i (by omega)
        clear HP HQ hstart
        generalize pk (ints s) k = q at *
        generalize pk l k = q2 at *
        clear hb h
        go_wp2_with fail
        go_region_held3 (fun _ => True) (first | exact trivial | fail) (first | (go_at_call 137; refine (hp _ (by with_reducible repeat (first | exact Below.refl _ _ | refine vb_d ?_))).mono ?_; rintro r w2 ⟨rfl, hb2⟩))
        all_goals
          go_wp2_with fail
          go_roundg (s.size - (k + 1))
          case measure => omega
          case rel => exact ⟨k + 1, by omega, rfl, by simp, HP2, vb_t HB.out (vb_t (vb_d (Below.refl _ _)) hb2)⟩
      · have HQ : Hid (startsW (ints s) l = false) := hid_intro (hstart (by simpa using he))
        clear hstart HP
        generalize pk (ints s) k = q at *
        generalize pk l k = q2 at *
        clear hb h
        go_wp2_with fail
        go_region_held3 (fun _ => True) (first | exact trivial | fail) (first | (go_at_call 137; refine (hp _ (by with_reducible repeat (first | exact Below.refl _ _ | refine vb_d ?_))).mono ?_; rintro r w2 ⟨rfl, hb2⟩))
        all_goals
          go_wp2_with fail
          go_ret
          have hbb := vb_t HB.out (vb_t (vb_d (Below.refl _ _)) hb2)
          exact ⟨by rw [HQ.out]; rfl, But.ofBelow hbb, by unfold rest; rw [HQ.out]; exact HH.out.below hbb⟩
    · obtain rfl : k = s.size := by omega
      have hI : ¬ ((s.size : Int) < (s.size : Int)) := by omega
      have hR := h.below hb
      have HR := hid_intro hR
      have HB := hid_intro hb
      obtain ⟨ao, n, cap, a, c0, c1, c2, fr, h1, h2, h3, h4, h5, h6⟩ := hR
      have HA := hid_intro c1
      have ff := fr 1
      have HQ : Hid (startsW (ints s) l = true) := by
        refine hid_intro ((startsW_iff _ _).2 ⟨?_, fun i hi => HP.out i (by rw [ints_len] at hi; exact hi)⟩)
        rw [ints_len]
        by_cases hz : s.size ≤ l.length
        · exact hz
        · have := HP.out l.length (by omega)
          rw [pk_out (Nat.le_refl _), ints_at s l.length (by omega)] at this
          omega
      have hw : IntKind.i64.wrap ((a : Int) + (s.size : Int)) = (a : Int) + (s.size : Int) := by simp [IntKind.wrap, IntKind.bits, IntKind.signed]; omega
      clear h6 h4 h1 h3 h hb HP fr hI hs hsI h5
      go_wp2_with fail
      go_ret
      refine ⟨by rw [HQ.out]; rfl, But.setr (But.ofBelow HB.out) _, ?_⟩
      unfold rest
      rw [HQ.out, if_pos rfl, ints_len]
      exact HR.out.adv s.size (by have := (startsW_iff _ _).1 HQ.out; rw [ints_len] at this; exact this.1) a HA.out _ rfl

set_option maxRecDepth 100000 in
set_option maxHeartbeats 800000 in
theorem need_ok (w : World) (rb : Nat) (l : List Int) (g : Int) (s : ByteArray) (hs : s.size ≤ 4096) (h : RD w rb l g) (he : startsW (ints s) l = true) :
    Calls Tryz.prog 154 #[.pointer (some ⟨rb, 0, none⟩), .string s] w fun r w' => r = .returned (.tuple #[]) ∧ But (· = rb) w w' ∧ RD w' rb (l.drop s.size) g := by
  have ht := take_any w rb l g s hs h
  have hr : rest (ints s) l = l.drop s.size := by unfold rest; rw [he, if_pos rfl, ints_len]
  rw [he, hr] at ht
  clear he hr h hs
  go_enter Tryz.func154, Tryz.ntmps154
  go_wp2_with fail
  refine ht.mono ?_
  rintro r w1 ⟨rfl, hb1, hr1⟩
  go_wp2_with fail
  go_end0
  exact ⟨rfl, hb1, hr1⟩
set_option maxRecDepth 100000 in
set_option maxHeartbeats 800000 in
theorem need_no (w : World) (rb : Nat) (l : List Int) (g : Int) (s : ByteArray) (hs : s.size ≤ 4096) (h : RD w rb l g) (he : startsW (ints s) l = false) :
    Calls Tryz.prog 154 #[.pointer (some ⟨rb, 0, none⟩), .string s] w fun r w' => r = stopX ∧ But (· = rb) w w' := by
  have ht := take_any w rb l g s hs h
  rw [he] at ht
  clear he h hs
  go_enter Tryz.func154, Tryz.ntmps154
  go_wp2_with fail
  refine ht.mono ?_
  rintro r w1 ⟨rfl, hb1, hr1⟩
  go_wp2_with fail
  exact ⟨rfl, rfl, hb1⟩
end Go.Proofs.YtoinlmfodmgohaaGreatDoor
