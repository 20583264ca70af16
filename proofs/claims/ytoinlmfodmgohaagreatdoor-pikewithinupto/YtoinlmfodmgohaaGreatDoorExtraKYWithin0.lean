/-
  A pattern behind a row of anything, from the first place on, is found where the pattern begins somewhere. No condition.
  PikeWithin, where it asks nothing: too large a tree or text, or no text. No condition but those of Size.
-/
import Derived.Test.YtoinlmfodmgohaaGreatDoorJoined37
import Derived.Test.YtoinlmfodmgohaaGreatDoorJoined39
import Derived.Test.YtoinlmfodmgohaaGreatDoorJoined40
import Derived.Test.YtoinlmfodmgohaaGreatDoorJoined43
import Derived.Test.YtoinlmfodmgohaaGreatDoorJoined35
namespace Go.Proofs.YtoinlmfodmgohaaGreatDoor

def tAny : RX := .mk 5 [] 0 (-1) false [.mk 2 [(0, 1114111)] 0 0 false []]
def tWin (x : RX) : RX := .mk 3 [] 0 0 false [tAny, x]
theorem sz_twin (x : RX) : szX (tWin x) = szX x + 3 := by
  unfold tWin tAny
  rw [szX]
  simp [szL, szX]
  omega
theorem nfa_win (x : RX) : nfaL (tWin x) = [⟨2, [], 1, 3⟩, ⟨1, [(0, 1114111)], 2, 0⟩, ⟨2, [], 0, 0⟩] ++ (bld x 3 ++ [⟨7, [], 0, 0⟩]) := by
  unfold nfaL tWin tAny
  rw [bld]
  simp [bldL, bld, rep, szL, szX]
theorem win_at (x : RX) : At (nfaL (tWin x)) 3 (bld x 0) := by
  rw [nfa_win]
  exact at_mid [⟨2, [], 1, 3⟩, ⟨1, [(0, 1114111)], 2, 0⟩, ⟨2, [], 0, 0⟩] _ x
theorem win_0 (x : RX) : sx (nfaL (tWin x)) 0 = ⟨2, [], 1, 3⟩ := by rw [nfa_win]; rfl
theorem win_1 (x : RX) : sx (nfaL (tWin x)) 1 = ⟨1, [(0, 1114111)], 2, 0⟩ := by rw [nfa_win]; rfl
theorem win_2 (x : RX) : sx (nfaL (tWin x)) 2 = ⟨2, [], 0, 0⟩ := by rw [nfa_win]; rfl
theorem win_e {x : RX} (hx : PartOK x) : sx (nfaL (tWin x)) (((3 : Nat) : Int) + (szX x : Int)) = ⟨7, [], 0, 0⟩ := by
  have e : (bld x 3).length = szX x := by have := bld_shift 3 x 0; rw [Nat.zero_add] at this; rw [this]; simp [hx.len]
  unfold sx
  rw [nfa_win, ← List.append_assoc]
  have h := sa_append_right (A := [⟨2, [], 1, 3⟩, ⟨1, [(0, 1114111)], 2, 0⟩, ⟨2, [], 0, 0⟩] ++ bld x 3) (B := [⟨7, [], 0, 0⟩]) 0
  have el : ([⟨2, [], 1, 3⟩, ⟨1, [(0, 1114111)], 2, 0⟩, ⟨2, [], 0, 0⟩] ++ bld x 3 : List ST).length = (((3 : Nat) : Int) + (szX x : Int)).toNat := by simp [e]; omega
  rw [el, Nat.add_zero] at h
  rw [h]; rfl
/-- Where a way can be. -/
def WinI (x : RX) (t : List Int) (z : Int) (q : Nat) : Prop := z = 0 ∨ z = 1 ∨ z = 2 ∨ ∃ p j, z = ((3 : Nat) : Int) + j ∧ Way (nfaL x) t 0 p j q
theorem way_win {x : RX} (hx : PartOK x) {t : List Int} {q : Nat} {z : Int} (h : Way (nfaL (tWin x)) t 0 0 z q) : WinI x t z q := by
  have hA := win_at x
  generalize h0 : (0 : Nat) = p0 at h
  clear h0
  induction h with
  | here p => exact Or.inl rfl
  | @a z p q h hg ih =>
    rcases ih with rfl | rfl | rfl | ⟨p, j, rfl, hw⟩
    · rw [win_0]; exact Or.inr (Or.inl rfl)
    · rw [win_1] at hg; exact absurd hg (by simp [letsB])
    · rw [win_2]; exact Or.inl rfl
    · by_cases e : j = (szX x : Int)
      · subst e; rw [win_e hx] at hg; exact absurd hg (by simp [letsB])
      · obtain ⟨z', e1, hw'⟩ := (step_down hx hA hw (by have := (way_in hx hw).2; omega)).1 hg
        exact Or.inr (Or.inr (Or.inr ⟨p, z', e1, hw'⟩))
  | @b z p q h hk ih =>
    rcases ih with rfl | rfl | rfl | ⟨p, j, rfl, hw⟩
    · rw [win_0]; exact Or.inr (Or.inr (Or.inr ⟨q, 0, rfl, .here _ _⟩))
    · rw [win_1] at hk; exact absurd hk (by simp)
    · rw [win_2]; exact Or.inl rfl
    · by_cases e : j = (szX x : Int)
      · subst e; rw [win_e hx] at hk; exact absurd hk (by simp)
      · obtain ⟨z', e1, hw'⟩ := (step_down hx hA hw (by have := (way_in hx hw).2; omega)).2.1 hk
        exact Or.inr (Or.inr (Or.inr ⟨p, z', e1, hw'⟩))
  | @eat z p q h hq hg ih =>
    rcases ih with rfl | rfl | rfl | ⟨p, j, rfl, hw⟩
    · have := goB_1 hg; rw [win_0] at this; exact absurd this (by simp)
    · rw [win_1]; exact Or.inr (Or.inr (Or.inl rfl))
    · have := goB_1 hg; rw [win_2] at this; exact absurd this (by simp)
    · by_cases e : j = (szX x : Int)
      · subst e; have := goB_1 hg; rw [win_e hx] at this; exact absurd this (by simp)
      · obtain ⟨z', e1, hw'⟩ := (step_down hx hA hw (by have := (way_in hx hw).2; omega)).2.2 hq hg
        exact Or.inr (Or.inr (Or.inr ⟨p, z', e1, hw'⟩))
theorem win_go {x : RX} {t : List Int} (ht : ∀ c ∈ t, 0 ≤ c ∧ c ≤ 1114111) : ∀ p, p ≤ t.length → Way (nfaL (tWin x)) t 0 0 0 p
  | 0, _ => .here _ _
  | p + 1, hp => by
    have h0 := win_go (x := x) ht p (by omega)
    have h1 := Way.a h0 (by rw [win_0]; rfl)
    rw [win_0] at h1
    have hm : ia t p ∈ t := by unfold ia; rw [List.getD_eq_getElem?_getD, List.getElem?_eq_getElem (by omega)]; exact List.getElem_mem _
    have h2 := Way.eat h1 (by omega) (by unfold goB; rw [win_1]; have := ht _ hm; simp [hasB]; omega)
    rw [win_1] at h2
    have h3 := Way.a h2 (by rw [win_2]; rfl)
    rw [win_2] at h3
    exact h3
theorem en_some {L : List ST} {t : List Int} : ∀ {p : Nat} {l : List Int}, EnP L t p l → (0 < l.length ↔ ∃ q, q < p ∧ Dn L t false q)
  | 0, l, h => by
    have : l = [] := h
    subst this
    simp
  | p + 1, l, ⟨l', h, hc⟩ => by
    have ih := en_some h
    rcases hc with ⟨hd, rfl⟩ | ⟨hd, rfl⟩
    · exact ⟨fun _ => ⟨p, by omega, hd⟩, fun _ => by simp⟩
    · rw [ih]
      constructor
      · rintro ⟨q, h1, h2⟩; exact ⟨q, by omega, h2⟩
      · rintro ⟨q, h1, h2⟩
        refine ⟨q, ?_, h2⟩
        by_cases e : q = p
        · subst e; exact absurd h2 hd
        · omega
theorem within_say {x : RX} (hx : PartOK x) {t : List Int} (ht : ∀ c ∈ t, 0 ≤ c ∧ c ≤ 1114111) {b : Bool} {n : Nat} {E : List Int} (h1 : SrR (nfaL x) t b n) (h2 : EnP (nfaL (tWin x)) t (t.length + 1) E) : b = decide (0 < E.length) := by
  rw [Bool.eq_iff_iff, decide_eq_true_iff, en_some h2, sr_finds h1, finds_end hx]
  constructor
  · rintro ⟨p, q, hq, hw⟩
    refine ⟨q, by omega, ((3 : Nat) : Int) + (szX x : Int), ?_, ?_⟩
    · have w0 := win_go (x := x) ht p (by have := hw.le; omega)
      have w1 := Way.b w0 (by rw [win_0])
      rw [win_0] at w1
      exact (rs_way _ t false q hq _).2 ⟨0, Nat.zero_le _, Or.inr rfl, w1.trans (way_up hx (win_at x) hw)⟩
    · unfold isD; rw [win_e hx]; rfl
  · rintro ⟨q, hq, z, hz, hd⟩
    obtain ⟨p0, _, hp0, hw⟩ := (rs_way _ t false q (by omega) z).1 hz
    obtain rfl : p0 = 0 := by rcases hp0 with h | h; exact absurd h (by simp); exact h
    unfold isD at hd
    rw [decide_eq_true_iff] at hd
    rcases way_win hx hw with rfl | rfl | rfl | ⟨p, j, rfl, hj⟩
    · rw [win_0] at hd; exact absurd hd (by simp)
    · rw [win_1] at hd; exact absurd hd (by simp)
    · rw [win_2] at hd; exact absurd hd (by simp)
    · have hi := way_in hx hj
      by_cases e : j = (szX x : Int)
      · subst e; exact ⟨p, q, by omega, hj⟩
      · rw [at_sx hx (win_at x) hi.1 (by omega), part_sx hx hi.1 (by omega)] at hd
        have h6 := hx.k j.toNat (by omega)
        have : (sa (bld x 0) j.toNat).k = 7 := hd
        omega
theorem right_tany (e : Nat) : rightB (e + 1 + 1) tAny = true := by
  refine right_wR _ (e + 1) ?_
  show (headB 2 [(0, 1114111)] 0 0 false && kindB 2 0 0 ([] : List RX).length && ([] : List RX).all (rightB e)) = true
  rw [headB_yes ⟨Or.inl rfl, Or.inr ⟨rfl, rfl, rfl⟩⟩, kindB_1 (Or.inl rfl), show rgB [(0, 1114111)] = true by decide]
  rfl
theorem right_win {x : RX} (hx : rightB 1000 x = true) (lx : lvX x ≤ 900) : rightB 1000 (tWin x) = true := by
  have ax := right_lv x 1000 999 hx (by omega)
  refine right_seq _ 999 (Nat.le_refl 2) fun z hz => ?_
  rcases List.mem_cons.mp hz with rfl | hz
  · exact right_tany 997
  · rcases List.mem_cons.mp hz with rfl | hz
    · exact ax
    · simp at hz
end Go.Proofs.YtoinlmfodmgohaaGreatDoor

namespace Go.Proofs.YtoinlmfodmgohaaGreatDoor
open Go.RowKit Go.Maps
attribute [local go_sem] setCell_drewN alloc_drewN

/-- What PikeWithin asks before it compiles. -/
def WithinIn (x : RX) (s : ByteArray) : Prop := goodS s = true ∧ rightB 1000 x = true ∧ szX x < 500 ∧ (ptsS s).length ≤ 100 ∧ lvX x ≤ 900
set_option maxRecDepth 100000 in
set_option maxHeartbeats 3200000 in
theorem within_guard (x : RX) (fx : Nat → Value) (s : ByteArray) (hs : s.size ≤ 1048576) (W0 : World) (hT : Tab W0) (hg0 : 0 < W0.heap.size) (X : Nat → Prop) (hbx : BdX 1099511627776 x) (hvx : XI W0 X x fx) (hno : ¬ WithinIn x s) :
    Calls Tryz.prog 7 #[xa fx, .string s] W0 fun e w' => e = .returned (.bool true) ∧ Below W0.heap.size W0 w' := by
  obtain ⟨k, a1, n1, c1, lo, hi, z, a2, n2, c2, e0, e1, e2, e3, e4, e5⟩ := hvx.six
  have exa : xa fx = .agg #[.int .i64 k, .slice a1 n1 c1, .int .i64 lo, .int .i64 hi, .bool z, .slice a2 n2 c2] := by unfold xa; rw [e0, e1, e2, e3, e4, e5]
  obtain ⟨W, hW⟩ : ∃ W, W0.alloc (.cells #[.int .i64 k, .slice a1 n1 c1, .int .i64 lo, .int .i64 hi, .bool z, .slice a2 n2 c2] 31) = W := ⟨_, rfl⟩
  have hbW : Below W0.heap.size W0 W := hW ▸ vb_a (Below.refl _ _) _
  have kX : Bk W W0.heap.size #[.int .i64 k, .slice a1 n1 c1, .int .i64 lo, .int .i64 hi, .bool z, .slice a2 n2 c2] := hW ▸ Bk.new _ _ _
  have hsx := fun w' (hb : Below W.heap.size W w') => size_any x fx w' X hbx (hvx.kept (vb_t hbW hb)) 1000 (I64_of (by omega) (by omega))
  have hlx := fun (hr : rightB 1000 x = true) w' (hb : Below W.heap.size W w') => levels_any x fx w' X (hvx.kept (vb_t hbW hb)) (lv_right x 1000 hr)
  have HHD := hid_intro (fun w' (hb : Below W.heap.size W w') => pheads_any w' (hT.below (vb_t hbW hb)) (Nat.lt_of_lt_of_le hg0 (vb_t hbW hb).size))
  have hsv : ∀ t, rightB 1000 t = true → sizeV t 1000 = min ((szX t : Int) + 1) 1001 := fun t hr => by unfold sizeV om; rw [hr, if_pos rfl, if_neg (by omega)]; omega
  have hev : ∀ t, rightB 1000 t = true → errN t = 0 := fun t hr => by unfold errN; rw [hr]; rfl
  have hen : ∀ t, rightB 1000 t = false → errN t = 91 := fun t hr => by unfold errN; rw [hr]; rfl
  have hcv : ∀ w', (convert 9 35 (.string s)).run Tryz.prog w' = _ := fun w' => conv_str w' s
  have hlen := ptsS_len s
  rw [exa] at hsx hlx
  rw [exa]
  obtain ⟨P, hP⟩ : ∃ P : Ending → World → Prop, P = fun e w' => e = .returned (.bool true) ∧ Below W0.heap.size W0 w' := ⟨_, rfl⟩
  rw [← hP]
  have HP := hid_intro hP
  have HW := hid_intro hW
  have HBW := hid_intro hbW
  have HKX := hid_intro kX
  clear hP hbW kX hvx hbx exa e0 e1 e2 e3 e4 e5 hT hg0
  cases hg : goodS s
  · have HP2 := hid_intro (fun w' => rpts_no s (by omega) w' hg)
    obtain ⟨n, hn⟩ : ∃ n, sizeV x 1000 = n := ⟨_, rfl⟩
    obtain ⟨m, hm⟩ : ∃ m, errN x = m := ⟨_, rfl⟩
    rw [hn, hm] at hsx
    have HSX := hid_intro hsx
    clear hsx hlx hsv hev hen hno hn hm hg hlen hs
    go_enter Tryz.func7, Tryz.ntmps7
    have h1 := HP2.out W
    go_wp2_with fail
    refine h1.mono ?_; rintro e w1 ⟨rfl, hb1⟩
    have h2 := HSX.out w1 hb1
    obtain ⟨x0, x1, x2, x3, x4, x5⟩ := (HKX.out.bel hb1).c6
    clear h1
    go_wp2_with fail
    refine h2.mono ?_; rintro e w2 ⟨rfl, hb2⟩
    have HB2 := hid_intro (vb_t hb1 hb2)
    clear h2 hb1 hb2 x0 x1 x2 x3 x4 x5
    go_wp2_with fail
    refine (HHD.out _ HB2.out).mono ?_; rintro e w9 ⟨rfl, hb9⟩
    go_wp2_with fail
    rw [HP.out]
    exact ⟨rfl, vb_t HBW.out (vb_t HB2.out hb9)⟩
  have HP2 := hid_intro (fun w' => rpts_ok s (by omega) w' hg)
  have hno' : ¬ (rightB 1000 x = true ∧ szX x < 500 ∧ (ptsS s).length ≤ 100 ∧ lvX x ≤ 900) := fun h => hno ⟨hg, h⟩
  generalize ptsS s = t at HP2 hlen hno'
  have htl : (t.length : Int) ≤ 1048576 := by omega
  clear hno hg hs hlen
  cases hrx : rightB 1000 x
  · rw [hen x hrx] at hsx
    obtain ⟨n, hn⟩ : ∃ n, sizeV x 1000 = n := ⟨_, rfl⟩
    rw [hn] at hsx
    have HSX := hid_intro hsx
    clear hsx hlx hsv hev hen hno' hrx hn
    go_enter Tryz.func7, Tryz.ntmps7
    have h1 := HP2.out W
    go_wp2_with fail
    refine h1.mono ?_; rintro e w1 ⟨r, rfl, ho, hb1⟩
    obtain ⟨ro, rc, rfl, _⟩ := ho.form
    have h2 := HSX.out w1 hb1
    obtain ⟨x0, x1, x2, x3, x4, x5⟩ := (HKX.out.bel hb1).c6
    clear h1 ho
    go_wp2_with fail
    refine h2.mono ?_; rintro e w2 ⟨rfl, hb2⟩
    have HB2 := hid_intro (vb_t hb1 hb2)
    clear h2 hb1 hb2 x0 x1 x2 x3 x4 x5
    go_wp2_with fail
    refine (HHD.out _ HB2.out).mono ?_; rintro e w9 ⟨rfl, hb9⟩
    go_wp2_with fail
    rw [HP.out]
    exact ⟨rfl, vb_t HBW.out (vb_t HB2.out hb9)⟩
  rw [hev x hrx, hsv x hrx] at hsx
  have HLX := hid_intro (hlx hrx)
  obtain ⟨n, hn⟩ : ∃ n, min ((szX x : Int) + 1) 1001 = n := ⟨_, rfl⟩
  rw [hn] at hsx
  have HSX := hid_intro hsx
  clear hsx hlx hsv hev hen
  by_cases q3 : 500 < n
  · clear HLX hno' hrx hn
    go_enter Tryz.func7, Tryz.ntmps7
    have h1 := HP2.out W
    go_wp2_with fail
    refine h1.mono ?_; rintro e w1 ⟨r, rfl, ho, hb1⟩
    obtain ⟨ro, rc, rfl, _⟩ := ho.form
    have h2 := HSX.out w1 hb1
    obtain ⟨x0, x1, x2, x3, x4, x5⟩ := (HKX.out.bel hb1).c6
    clear h1 ho
    go_wp2_with fail
    refine h2.mono ?_; rintro e w2 ⟨rfl, hb2⟩
    have HB2 := hid_intro (vb_t hb1 hb2)
    clear h2 hb1 hb2 x0 x1 x2 x3 x4 x5
    go_wp2_with fail
    refine (HHD.out _ HB2.out).mono ?_; rintro e w9 ⟨rfl, hb9⟩
    go_wp2_with fail
    rw [HP.out]
    exact ⟨rfl, vb_t HBW.out (vb_t HB2.out hb9)⟩
  have q3' : decide (500 < n) = false := decide_eq_false q3
  by_cases q5 : (100 : Int) < (t.length : Int)
  · have q5' : 100 < t.length := by omega
    clear HLX hno' hrx hn
    go_enter Tryz.func7, Tryz.ntmps7
    have h1 := HP2.out W
    go_wp2_with fail
    refine h1.mono ?_; rintro e w1 ⟨r, rfl, ho, hb1⟩
    obtain ⟨ro, rc, rfl, _⟩ := ho.form
    have h2 := HSX.out w1 hb1
    obtain ⟨x0, x1, x2, x3, x4, x5⟩ := (HKX.out.bel hb1).c6
    clear h1 ho
    go_wp2_with fail
    refine h2.mono ?_; rintro e w2 ⟨rfl, hb2⟩
    have HB2 := hid_intro (vb_t hb1 hb2)
    clear h2 hb1 hb2 x0 x1 x2 x3 x4 x5
    go_wp2_with fail
    refine (HHD.out _ HB2.out).mono ?_; rintro e w9 ⟨rfl, hb9⟩
    go_wp2_with fail
    rw [HP.out]
    exact ⟨rfl, vb_t HBW.out (vb_t HB2.out hb9)⟩
  have q5' : ¬ 100 < t.length := by omega
  have q5d : decide ((100 : Int) < (t.length : Int)) = false := decide_eq_false q5
  have q5e : decide (100 < t.length) = false := decide_eq_false q5'
  by_cases q6 : 900 < lvX x
  · have q6' : (900 : Int) < (lvX x : Int) := by omega
    clear hno' hrx hn
    go_enter Tryz.func7, Tryz.ntmps7
    have h1 := HP2.out W
    go_wp2_with fail
    refine h1.mono ?_; rintro e w1 ⟨r, rfl, ho, hb1⟩
    obtain ⟨ro, rc, rfl, _⟩ := ho.form
    have h2 := HSX.out w1 hb1
    obtain ⟨x0, x1, x2, x3, x4, x5⟩ := (HKX.out.bel hb1).c6
    clear h1 ho
    go_wp2_with fail
    refine h2.mono ?_; rintro e w2 ⟨rfl, hb2⟩
    have HB2 := hid_intro (vb_t hb1 hb2)
    have h3 := HLX.out w2 (vb_t hb1 hb2)
    clear h2 hb1 hb2 x0 x1 x2 x3 x4 x5
    obtain ⟨x0, x1, x2, x3, x4, x5⟩ := (HKX.out.bel HB2.out).c6
    go_wp2_with fail
    refine h3.mono ?_; rintro e w3 ⟨rfl, hb3⟩
    have HB3 := hid_intro (vb_t HB2.out hb3)
    clear h3 hb3 x0 x1 x2 x3 x4 x5
    go_wp2_with fail
    refine (HHD.out _ HB3.out).mono ?_; rintro e w9 ⟨rfl, hb9⟩
    go_wp2_with fail
    rw [HP.out]
    exact ⟨rfl, vb_t HBW.out (vb_t HB3.out hb9)⟩
  exact absurd ⟨hrx, by omega, by omega, by omega⟩ hno'
end Go.Proofs.YtoinlmfodmgohaaGreatDoor
