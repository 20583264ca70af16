/-
  What means answers of every right tree; that counts answers; what Ends and Search say by what a tree means. Conditions: at most 2^20 places.
  PikeMeans, where it asks nothing: too large a tree or text, or no text. No condition but those of Size.
-/
import Derived.Test.YtoinlmfodmgohaaGreatDoorExtraKYMeans2
import Derived.Test.YtoinlmfodmgohaaGreatDoorExtraKYMeans3
import Derived.Test.YtoinlmfodmgohaaGreatDoorExtraKYMeans4
import Derived.Test.YtoinlmfodmgohaaGreatDoorExtraKYMeans5
import Derived.Test.YtoinlmfodmgohaaGreatDoorJoined39
import Derived.Test.YtoinlmfodmgohaaGreatDoorExtraKYMeans0
import Derived.Test.YtoinlmfodmgohaaGreatDoorJoined40m
import Derived.Test.YtoinlmfodmgohaaGreatDoorJoined43
namespace Go.Proofs.YtoinlmfodmgohaaGreatDoor
open Go.RowKit Go.Maps
attribute [local go_sem] setCell_drewN alloc_drewN

theorem means_any (t : List Int) (tv : Value) (hlt : t.length ≤ 1048576) : ∀ (x : RX) (d : Nat), rightB d x = true → MnC x t tv := by
  intro x
  induction x using RX.ind with
  | h k r lo hi z s ih =>
    intro d hr
    have h2 := hr
    obtain ⟨⟨e, rfl, hre⟩, hk4, hk5⟩ := right_parts hr
    have hsub : ∀ y ∈ s, MnC y t tv := fun y hy => ih y hy e (hre y hy)
    have hhi : ∀ y ∈ s, ∀ p q, MX y t p q → p ≤ t.length → q ≤ t.length := fun y hy p q h hp => mx_hi (hre y hy) h hp
    have kk : k = 1 ∨ k = 2 ∨ k = 3 ∨ k = 4 ∨ k = 5 ∨ k = 6 ∨ k = 7 ∨ k = 8 ∨ k = 9 := by
      simp only [rightB, Bool.and_eq_true] at h2
      have h3 := h2.1.2
      unfold kindB at h3
      by_cases c : k = 1 ∨ k = 2 ∨ k = 3 ∨ k = 4 ∨ k = 5 ∨ k = 6 ∨ k = 7 ∨ k = 8 ∨ k = 9
      · exact c
      · rw [if_neg (by omega), if_neg (by omega), if_neg (by omega)] at h3; cases h3
    rcases kk with rfl | rfl | rfl | rfl | rfl | rfl | rfl | rfl | rfl
    · exact means_1 r lo hi z s t tv hlt
    · exact means_2 r lo hi z s t tv hlt
    · exact means_3 r lo hi z s t tv hlt hsub hhi
    · exact means_4 r lo hi z s t tv hlt hsub
    · obtain ⟨h1, h2, h3, h4⟩ := hk5 rfl
      obtain ⟨m, rfl⟩ : ∃ m : Nat, lo = (m : Int) := ⟨lo.toNat, by omega⟩
      exact means_5 r m hi z s t tv hlt hsub hhi h1 (by omega) h4
    · exact means_6 r lo hi z s t tv hlt
    · exact means_7 r lo hi z s t tv hlt
    · exact means_8 r lo hi z s t tv hlt
    · exact means_9 r lo hi z s t tv hlt
def BoolE (e : Ending) : Prop := ∃ b, e = .returned (.bool b)
set_option maxRecDepth 100000 in
set_option maxHeartbeats 3200000 in
theorem lcounts_any : ∀ (t : RX) (f : Nat → Value) (w : World) (Y : Nat → Prop), XI w Y t f →
    Calls Tryz.prog 22 #[xa f] w fun e w' => BoolE e ∧ Below w.heap.size w w' := by
  intro t
  induction t using RX.ind with
  | h k r lo hi z s ih =>
    intro f w Y hv
    cases hv with
    | mk ao cap G f0 f1 f2 f3 f4 f5 hc hw hl hr =>
    obtain ⟨a1, c1, e1, _⟩ := f1.shape
    have exa : xa f = .agg #[.int .i64 k, .slice a1 r.length c1, .int .i64 lo, .int .i64 hi, .bool z, .slice ao s.length cap] := by unfold xa; rw [f0, e1, f2, f3, f4, f5]
    rw [exa]
    have hlI : (s.length : Int) ≤ 9223372036854775807 := by have := hc.1; have := hc.2; unfold maxLen at this; omega
    obtain ⟨P, hP⟩ : ∃ P : Ending → World → Prop, P = fun e w' => BoolE e ∧ Below w.heap.size w w' := ⟨_, rfl⟩
    rw [← hP]
    have HP := hid_intro hP
    obtain ⟨W, hW⟩ : ∃ W, w.alloc (.cells #[.int .i64 k, .slice a1 r.length c1, .int .i64 lo, .int .i64 hi, .bool z, .slice ao s.length cap] 31) = W := ⟨_, rfl⟩
    have hbW : Below w.heap.size w W := hW ▸ vb_a (Below.refl _ _) _
    have kX : Bk W w.heap.size #[.int .i64 k, .slice a1 r.length c1, .int .i64 lo, .int .i64 hi, .bool z, .slice ao s.length cap] := hW ▸ Bk.new _ _ _
    have HL : Hid (∀ w', Below W.heap.size W w' → (s = [] ∨ ∃ b off, ao = some ⟨b, off, none⟩ ∧ ∀ i, i < s.length → ∀ j, j < 6 → w'.cell? ⟨b, off + i * 6 + j, none⟩ = some (G i j))) := hid_intro (fun w' hb => by
      rcases hl with hl | ⟨b, off, h1, _, h3⟩
      · exact .inl hl
      · exact .inr ⟨b, off, h1, fun i hi j hj => by rw [(vb_t hbW hb).cell (p := ⟨b, off + i * 6 + j, none⟩) (World.block_lt_of_cell? w _ (h3 i hi j hj))]; exact h3 i hi j hj⟩)
    have HI : Hid (∀ w' i (h : i < s.length), Below W.heap.size W w' → Calls Tryz.prog 22 #[.agg #[G i 0, G i 1, G i 2, G i 3, G i 4, G i 5]] w' fun e w2 => BoolE e ∧ Below w'.heap.size w' w2) := hid_intro (fun w' i h hb =>
      ih s[i] (List.getElem_mem h) (G i) w' Y ((hr i h).kept (vb_t hbW hb)))
    have HX := hid_intro hbW
    have HW := hid_intro hW
    have HK := hid_intro kX
    obtain ⟨z0, z1, z2, z3, z4, z5⟩ := kX.c6
    clear hP hl hr ih hbW kX hW exa f1 hw
    go_enter Tryz.func22, Tryz.ntmps22
    go_wp2_with fail
    rw [HW.out]
    clear z0 z1 z2 z3 z4 z5
    go_loopg [3] s.length (fun m s3 wr => ∃ j : Nat, j ≤ s.length ∧ m = s.length - j ∧ s3 = .int .i64 (j : Int) ∧ Hid (Below W.heap.size W wr))
    case atStart => exact ⟨0, Nat.zero_le _, rfl, rfl, Below.refl _ _⟩
    case round =>
      obtain ⟨j, hj, rfl, rfl, HZ⟩ := hrel
      obtain ⟨a0, a1', a2, a3, a4, a5⟩ := (HK.out.bel HZ.out).c6
      by_cases hlt : j < s.length
      · have hJ : (j : Int) < (s.length : Int) := by omega
        obtain ⟨b, off, rfl, h3⟩ := (HL.out wr HZ.out).resolve_left (fun e => by rw [e] at hlt; exact absurd hlt (by simp))
        have g0 : wr.cell? ⟨b, off + j * 6, none⟩ = some (G j 0) := h3 j hlt 0 (by omega)
        have g1 := h3 j hlt 1 (by omega)
        have g2 := h3 j hlt 2 (by omega)
        have g3 := h3 j hlt 3 (by omega)
        have g4 := h3 j hlt 4 (by omega)
        have g5 := h3 j hlt 5 (by omega)
        have h1 := HI.out wr j hlt HZ.out
        have HLT := hid_intro hlt
        clear h3
        go_wp2_with fail
        refine h1.mono ?_; rintro e w2 ⟨⟨b2, rfl⟩, hb2⟩
        have HB2 := hid_intro (vb_t HZ.out hb2)
        clear h1 hb2 g0 g1 g2 g3 g4 g5 a0 a1' a2 a3 a4 a5
        cases b2
        · go_wp2_with fail
          go_roundg (s.length - (j + 1))
          case measure => have := HLT.out; omega
          case rel => exact ⟨j + 1, HLT.out, rfl, by simp, HB2.out⟩
        · go_wp2_with fail
          rw [HP.out]
          exact ⟨⟨_, rfl⟩, vb_t HX.out HB2.out⟩
      · have hJ : ¬ (j : Int) < (s.length : Int) := by omega
        by_cases q1 : (6 : Int) < lo
        · go_wp2_with fail
          rw [HP.out]
          exact ⟨⟨_, rfl⟩, vb_t HX.out HZ.out⟩
        · have q1' : decide ((6 : Int) < lo) = false := decide_eq_false q1
          go_wp2_with fail
          rw [HP.out]
          exact ⟨⟨_, rfl⟩, vb_t HX.out HZ.out⟩
theorem way_mx {x : RX} {d : Nat} (hr : rightB d x = true) (t : List Int) (p q : Nat) : Way (nfaL x) t 0 p (szX x : Int) q ↔ MX x t p q := by
  obtain ⟨h1, h2⟩ := fm_tree x d hr
  rw [← h1.m t p q, ← h2]
  exact Iff.rfl
/-- What Ends tells of a place. -/
theorem dn_mx {x : RX} {d : Nat} (hr : rightB d x = true) {t : List Int} {q : Nat} (hq : q ≤ t.length) : Dn (nfaL x) t false q ↔ MX x t 0 q := by
  have hx := part_ok hr
  rw [← way_mx hr]
  constructor
  · rintro ⟨z, hz, hd⟩
    obtain ⟨p0, _, hp0, hw⟩ := (rs_way _ t false q hq z).1 hz
    obtain rfl : p0 = 0 := by rcases hp0 with h | h; exact absurd h (by simp); exact h
    have hi := way_in hx hw
    by_cases e : z = (szX x : Int)
    · subst e; exact hw
    · unfold isD at hd
      rw [decide_eq_true_iff, part_sx hx hi.1 (by omega)] at hd
      have := hx.k z.toNat (by omega)
      omega
  · intro hw
    refine ⟨_, (rs_way _ t false q hq _).2 ⟨0, Nat.zero_le _, Or.inr rfl, hw⟩, ?_⟩
    unfold isD sx
    rw [Int.toNat_natCast, nfa_end hx.len]
    rfl
/-- What Search tells. -/
theorem sr_mx {x : RX} {d : Nat} (hr : rightB d x = true) {t : List Int} {b : Bool} {n : Nat} (h : SrR (nfaL x) t b n) : b = true ↔ ∃ p, p < t.length + 1 ∧ ∃ q, q ≤ t.length ∧ MX x t p q := by
  rw [sr_finds h, finds_end (part_ok hr)]
  constructor
  · rintro ⟨p, q, hq, hw⟩
    exact ⟨p, by have := hw.le; omega, q, hq, (way_mx hr t p q).1 hw⟩
  · rintro ⟨p, _, q, hq, hm⟩
    exact ⟨p, q, hq, (way_mx hr t p q).2 hm⟩
end Go.Proofs.YtoinlmfodmgohaaGreatDoor

namespace Go.Proofs.YtoinlmfodmgohaaGreatDoor
open Go.RowKit Go.Maps
attribute [local go_sem] setCell_drewN alloc_drewN

/-- What PikeMeans asks before it compiles. -/
def MeansIn (x : RX) (s : ByteArray) : Prop := goodS s = true ∧ (ptsS s).length ≤ 12 ∧ rightB 1000 x = true ∧ szX x < 40 ∧ lvX x ≤ 5
set_option maxRecDepth 100000 in
set_option maxHeartbeats 3200000 in
theorem pmeans_guard (x : RX) (fx : Nat → Value) (s : ByteArray) (hs : s.size ≤ 1048576) (W0 : World) (hT : Tab W0) (hg0 : 0 < W0.heap.size) (X : Nat → Prop) (hbx : BdX 1099511627776 x) (hvx : XI W0 X x fx) (hno : ¬ MeansIn x s) :
    Calls Tryz.prog 5 #[xa fx, .string s] W0 fun e w' => e = .returned (.bool true) ∧ Below W0.heap.size W0 w' := by
  obtain ⟨k, a1, n1, c1, lo, hi, z, a2, n2, c2, e0, e1, e2, e3, e4, e5⟩ := hvx.six
  have exa : xa fx = .agg #[.int .i64 k, .slice a1 n1 c1, .int .i64 lo, .int .i64 hi, .bool z, .slice a2 n2 c2] := by unfold xa; rw [e0, e1, e2, e3, e4, e5]
  obtain ⟨W, hW⟩ : ∃ W, W0.alloc (.cells #[.int .i64 k, .slice a1 n1 c1, .int .i64 lo, .int .i64 hi, .bool z, .slice a2 n2 c2] 31) = W := ⟨_, rfl⟩
  have hbW : Below W0.heap.size W0 W := hW ▸ vb_a (Below.refl _ _) _
  have kX : Bk W W0.heap.size #[.int .i64 k, .slice a1 n1 c1, .int .i64 lo, .int .i64 hi, .bool z, .slice a2 n2 c2] := hW ▸ Bk.new _ _ _
  have hsx := fun w' (hb : Below W.heap.size W w') => size_any x fx w' X hbx (hvx.kept (vb_t hbW hb)) 1000 (I64_of (by omega) (by omega))
  have hlx := fun (hr : rightB 1000 x = true) w' (hb : Below W.heap.size W w') => levels_any x fx w' X (hvx.kept (vb_t hbW hb)) (lv_right x 1000 hr)
  have HHD := hid_intro (fun w' (hb : Below W.heap.size W w') => pheads_any w' (hT.below (vb_t hbW hb)) (Nat.lt_of_lt_of_le hg0 (vb_t hbW hb).size))
  have hsv : ∀ t, rightB 1000 t = true → sizeV t 1000 = min ((szX t : Int) + 1) 1001 := fun t hr => by unfold sizeV om; rw [hr, if_pos rfl, if_neg (by omega)]; omega
  have hev : ∀ t, rightB 1000 t = true → errN t = 0 := fun t hr => by unfold errN; rw [hr]; rfl
  have hen : ∀ t, rightB 1000 t = false → errN t = 91 := fun t hr => by unfold errN; rw [hr]; rfl
  have hcv : ∀ w', (convert 9 35 (.string s)).run Tryz.prog w' = _ := fun w' => conv_str w' s
  have hlen := ptsS_len s
  rw [exa] at hsx hlx
  rw [exa]
  obtain ⟨P, hP⟩ : ∃ P : Ending → World → Prop, P = fun e w' => e = .returned (.bool true) ∧ Below W0.heap.size W0 w' := ⟨_, rfl⟩
  rw [← hP]
  have HP := hid_intro hP
  have HW := hid_intro hW
  have HBW := hid_intro hbW
  have HKX := hid_intro kX
  clear hP hbW kX hvx hbx exa e0 e1 e2 e3 e4 e5 hT hg0
  cases hg : goodS s
  · have HP2 := hid_intro (fun w' => rpts_no s (by omega) w' hg)
    obtain ⟨n, hn⟩ : ∃ n, sizeV x 1000 = n := ⟨_, rfl⟩
    obtain ⟨m, hm⟩ : ∃ m, errN x = m := ⟨_, rfl⟩
    rw [hn, hm] at hsx
    have HSX := hid_intro hsx
    clear hsx hlx hsv hev hen hno hn hm hg hlen hs
    go_enter Tryz.func5, Tryz.ntmps5
    have h1 := HP2.out W
    go_wp2_with fail
    refine h1.mono ?_; rintro e w1 ⟨rfl, hb1⟩
    have h2 := HSX.out w1 hb1
    obtain ⟨x0, x1, x2, x3, x4, x5⟩ := (HKX.out.bel hb1).c6
    clear h1
    go_wp2_with fail
    refine h2.mono ?_; rintro e w2 ⟨rfl, hb2⟩
    have HB2 := hid_intro (vb_t hb1 hb2)
    clear h2 hb1 hb2 x0 x1 x2 x3 x4 x5
    go_wp2_with fail
    refine (HHD.out _ HB2.out).mono ?_; rintro e w9 ⟨rfl, hb9⟩
    go_wp2_with fail
    rw [HP.out]
    exact ⟨rfl, vb_t HBW.out (vb_t HB2.out hb9)⟩
  have HP2 := hid_intro (fun w' => rpts_ok s (by omega) w' hg)
  have hno' : ¬ ((ptsS s).length ≤ 12 ∧ rightB 1000 x = true ∧ szX x < 40 ∧ lvX x ≤ 5) := fun h => hno ⟨hg, h⟩
  generalize ptsS s = t at HP2 hlen hno'
  have htl : (t.length : Int) ≤ 1048576 := by omega
  clear hno hg hs hlen
  by_cases q5 : (12 : Int) < (t.length : Int)
  · have q5' : 12 < t.length := by omega
    obtain ⟨n, hn⟩ : ∃ n, sizeV x 1000 = n := ⟨_, rfl⟩
    obtain ⟨m, hm⟩ : ∃ m, errN x = m := ⟨_, rfl⟩
    rw [hn, hm] at hsx
    have HSX := hid_intro hsx
    clear hsx hlx hsv hev hen hno' hn hm
    go_enter Tryz.func5, Tryz.ntmps5
    have h1 := HP2.out W
    go_wp2_with fail
    refine h1.mono ?_; rintro e w1 ⟨r, rfl, ho, hb1⟩
    obtain ⟨ro, rc, rfl, _⟩ := ho.form
    have h2 := HSX.out w1 hb1
    obtain ⟨x0, x1, x2, x3, x4, x5⟩ := (HKX.out.bel hb1).c6
    clear h1 ho
    go_wp2_with fail
    refine h2.mono ?_; rintro e w2 ⟨rfl, hb2⟩
    have HB2 := hid_intro (vb_t hb1 hb2)
    clear h2 hb1 hb2 x0 x1 x2 x3 x4 x5
    go_wp2_with fail
    refine (HHD.out _ HB2.out).mono ?_; rintro e w9 ⟨rfl, hb9⟩
    go_wp2_with fail
    rw [HP.out]
    exact ⟨rfl, vb_t HBW.out (vb_t HB2.out hb9)⟩
  have q5' : ¬ 12 < t.length := by omega
  have q5d : decide ((12 : Int) < (t.length : Int)) = false := decide_eq_false q5
  have q5e : decide (12 < t.length) = false := decide_eq_false q5'
  cases hrx : rightB 1000 x
  · rw [hen x hrx] at hsx
    obtain ⟨n, hn⟩ : ∃ n, sizeV x 1000 = n := ⟨_, rfl⟩
    rw [hn] at hsx
    have HSX := hid_intro hsx
    clear hsx hlx hsv hev hen hno' hrx hn
    go_enter Tryz.func5, Tryz.ntmps5
    have h1 := HP2.out W
    go_wp2_with fail
    refine h1.mono ?_; rintro e w1 ⟨r, rfl, ho, hb1⟩
    obtain ⟨ro, rc, rfl, _⟩ := ho.form
    have h2 := HSX.out w1 hb1
    obtain ⟨x0, x1, x2, x3, x4, x5⟩ := (HKX.out.bel hb1).c6
    clear h1 ho
    go_wp2_with fail
    refine h2.mono ?_; rintro e w2 ⟨rfl, hb2⟩
    have HB2 := hid_intro (vb_t hb1 hb2)
    clear h2 hb1 hb2 x0 x1 x2 x3 x4 x5
    go_wp2_with fail
    refine (HHD.out _ HB2.out).mono ?_; rintro e w9 ⟨rfl, hb9⟩
    go_wp2_with fail
    rw [HP.out]
    exact ⟨rfl, vb_t HBW.out (vb_t HB2.out hb9)⟩
  rw [hev x hrx, hsv x hrx] at hsx
  have HLX := hid_intro (hlx hrx)
  obtain ⟨n, hn⟩ : ∃ n, min ((szX x : Int) + 1) 1001 = n := ⟨_, rfl⟩
  rw [hn] at hsx
  have HSX := hid_intro hsx
  clear hsx hlx hsv hev hen
  by_cases q3 : 40 < n
  · clear HLX hno' hrx hn
    go_enter Tryz.func5, Tryz.ntmps5
    have h1 := HP2.out W
    go_wp2_with fail
    refine h1.mono ?_; rintro e w1 ⟨r, rfl, ho, hb1⟩
    obtain ⟨ro, rc, rfl, _⟩ := ho.form
    have h2 := HSX.out w1 hb1
    obtain ⟨x0, x1, x2, x3, x4, x5⟩ := (HKX.out.bel hb1).c6
    clear h1 ho
    go_wp2_with fail
    refine h2.mono ?_; rintro e w2 ⟨rfl, hb2⟩
    have HB2 := hid_intro (vb_t hb1 hb2)
    clear h2 hb1 hb2 x0 x1 x2 x3 x4 x5
    go_wp2_with fail
    refine (HHD.out _ HB2.out).mono ?_; rintro e w9 ⟨rfl, hb9⟩
    go_wp2_with fail
    rw [HP.out]
    exact ⟨rfl, vb_t HBW.out (vb_t HB2.out hb9)⟩
  have q3' : decide (40 < n) = false := decide_eq_false q3
  by_cases q6 : 5 < lvX x
  · have q6' : (5 : Int) < (lvX x : Int) := by omega
    clear hno' hrx hn
    go_enter Tryz.func5, Tryz.ntmps5
    have h1 := HP2.out W
    go_wp2_with fail
    refine h1.mono ?_; rintro e w1 ⟨r, rfl, ho, hb1⟩
    obtain ⟨ro, rc, rfl, _⟩ := ho.form
    have h2 := HSX.out w1 hb1
    obtain ⟨x0, x1, x2, x3, x4, x5⟩ := (HKX.out.bel hb1).c6
    clear h1 ho
    go_wp2_with fail
    refine h2.mono ?_; rintro e w2 ⟨rfl, hb2⟩
    have HB2 := hid_intro (vb_t hb1 hb2)
    have h3 := HLX.out w2 (vb_t hb1 hb2)
    clear h2 hb1 hb2 x0 x1 x2 x3 x4 x5
    obtain ⟨x0, x1, x2, x3, x4, x5⟩ := (HKX.out.bel HB2.out).c6
    go_wp2_with fail
    refine h3.mono ?_; rintro e w3 ⟨rfl, hb3⟩
    have HB3 := hid_intro (vb_t HB2.out hb3)
    clear h3 hb3 x0 x1 x2 x3 x4 x5
    go_wp2_with fail
    refine (HHD.out _ HB3.out).mono ?_; rintro e w9 ⟨rfl, hb9⟩
    go_wp2_with fail
    rw [HP.out]
    exact ⟨rfl, vb_t HBW.out (vb_t HB3.out hb9)⟩
  exact absurd ⟨by omega, hrx, by omega, by omega⟩ hno'
set_option maxRecDepth 100000 in
set_option maxHeartbeats 6400000 in
theorem pmeans_asks (x : RX) (fx : Nat → Value) (s : ByteArray) (hs : s.size ≤ 1048576) (W0 : World) (hT : Tab W0) (hg0 : 0 < W0.heap.size) (hbx : BdX 1048576 x) (hvx : XI W0 (fun _ => False) x fx) (hin : MeansIn x s) :
    Calls Tryz.prog 5 #[xa fx, .string s] W0 fun e w' => e = .returned (.bool true) ∧ Below W0.heap.size W0 w' := by
  obtain ⟨hgs, htl, hrx, hzx, hlvx⟩ := hin
  obtain ⟨k, a1, n1, c1, lo, hi, z, a2, n2, c2, e0, e1, e2, e3, e4, e5⟩ := hvx.six
  have exa : xa fx = .agg #[.int .i64 k, .slice a1 n1 c1, .int .i64 lo, .int .i64 hi, .bool z, .slice a2 n2 c2] := by unfold xa; rw [e0, e1, e2, e3, e4, e5]
  obtain ⟨W, hW⟩ : ∃ W, W0.alloc (.cells #[.int .i64 k, .slice a1 n1 c1, .int .i64 lo, .int .i64 hi, .bool z, .slice a2 n2 c2] 31) = W := ⟨_, rfl⟩
  have hbW : Below W0.heap.size W0 W := hW ▸ vb_a (Below.refl _ _) _
  have kX : Bk W W0.heap.size #[.int .i64 k, .slice a1 n1 c1, .int .i64 lo, .int .i64 hi, .bool z, .slice a2 n2 c2] := hW ▸ Bk.new _ _ _
  have hsx := fun w' (hb : Below W.heap.size W w') => size_any x fx w' _ (hbx.mono (by omega)) (hvx.kept (vb_t hbW hb)) 1000 (I64_of (by omega) (by omega))
  have hlx := fun w' (hb : Below W.heap.size W w') => levels_any x fx w' _ (hvx.kept (vb_t hbW hb)) (lv_right x 1000 hrx)
  have hco := fun w' (hb : Below W.heap.size W w') => lcounts_any x fx w' _ (hvx.kept (vb_t hbW hb))
  have HHD := hid_intro (fun w' (hb : Below W.heap.size W w') => pheads_any w' (hT.below (vb_t hbW hb)) (Nat.lt_of_lt_of_le hg0 (vb_t hbW hb).size))
  have HTB := hid_intro (fun w' (hb : Below W.heap.size W w') => hT.below (vb_t hbW hb))
  have hcx := fun w' (hb : Below W.heap.size W w') => comp_ok x hbx fx w' _ (hvx.kept (vb_t hbW hb)) 1000 hrx (by omega)
  have hsv : sizeV x 1000 = min ((szX x : Int) + 1) 1001 := by unfold sizeV om; rw [hrx, if_pos rfl, if_neg (by omega)]; omega
  have hev : errN x = 0 := by unfold errN; rw [hrx]; rfl
  have hme := fun (t : List Int) (tv : Value) (hl : t.length ≤ 12) w' (hb : Below W.heap.size W w') (hI : II w' (fun _ => False) t tv) (p : Nat) (hp : p ≤ t.length) => means_any t tv (by omega) x 1000 hrx fx w' (hvx.kept (vb_t hbW hb)) hI p hp
  rw [exa] at hsx hlx hcx hco hme
  rw [exa]
  rw [hev, hsv] at hsx
  obtain ⟨n, hn⟩ : ∃ n, min ((szX x : Int) + 1) 1001 = n := ⟨_, rfl⟩
  rw [hn] at hsx
  have q3 : decide (40 < n) = false := decide_eq_false (by omega)
  have q6 : decide (5 < lvX x) = false := decide_eq_false (by omega)
  have q6' : decide ((5 : Int) < (lvX x : Int)) = false := decide_eq_false (by omega)
  have HSX := hid_intro hsx
  have HLX := hid_intro hlx
  have HCO := hid_intro hco
  have HCX := hid_intro hcx
  have HME := hid_intro hme
  have HP2 := hid_intro (fun w' => rpts_ok s (by omega) w' hgs)
  have hcv : ∀ w', (convert 9 35 (.string s)).run Tryz.prog w' = _ := fun w' => conv_str w' s
  have HFX := hid_intro (fun w' (hb : Below W.heap.size W w') lv (hS : SI w' (fun _ => False) (nfaL x) lv) => nfa_find x hrx hbx (by omega) s hs lv w' (HTB.out w' hb) _ hS)
  have HFW := hid_intro (fun w' (hb : Below W.heap.size W w') lv (hS : SI w' (fun _ => False) (nfaL x) lv) => nfa_ends x hrx hbx (by omega) s hs hgs lv w' (HTB.out w' hb) _ hS)
  have hge : gE s = 0 := by unfold gE; rw [hgs]; rfl
  have HRS : Hid (rightB 1000 x = true ∧ goodS s = true) := hid_intro ⟨hrx, hgs⟩
  rw [hge] at HFX
  generalize ptsS s = t at HP2 HFX HFW htl
  have HTL := hid_intro htl
  have q5 : decide ((12 : Int) < (t.length : Int)) = false := decide_eq_false (by omega)
  have q5' : decide (12 < t.length) = false := decide_eq_false (by omega)
  obtain ⟨P, hP⟩ : ∃ P : Ending → World → Prop, P = fun e w' => e = .returned (.bool true) ∧ Below W0.heap.size W0 w' := ⟨_, rfl⟩
  rw [← hP]
  have HP := hid_intro hP
  have HBW := hid_intro hbW
  have HKX := hid_intro kX
  have h1 := HP2.out W
  clear hP hbW kX hvx hbx exa e0 e1 e2 e3 e4 e5 hT hg0 hsx hlx hco hcx hme hrx hsv hev hn hzx htl hlvx hgs hge hs
  go_enter Tryz.func5, Tryz.ntmps5
  go_wp2_with fail
  refine h1.mono ?_; rintro e w1 ⟨r, rfl, ho, hb1⟩
  have hII := ho.ii (fun _ => False) (fun _ _ h => h)
  obtain ⟨ro, rc, rfl, _⟩ := ho.form
  have HII := hid_intro hII
  have HME1 := hid_intro (HME.out t (.slice ro t.length rc) HTL.out)
  have h2 := HSX.out w1 hb1
  have HB1 := hid_intro hb1
  obtain ⟨x0, x1, x2, x3, x4, x5⟩ := (HKX.out.bel hb1).c6
  clear h1 ho hII
  go_wp2_with fail
  refine h2.mono ?_; rintro e w2 ⟨rfl, hb2⟩
  have HB2 := hid_intro (vb_t hb1 hb2)
  have HI2 := hid_intro (HII.out.kept hb2)
  have h3 := HLX.out w2 (vb_t hb1 hb2)
  clear h2 hb1 hb2 x0 x1 x2 x3 x4 x5
  obtain ⟨x0, x1, x2, x3, x4, x5⟩ := (HKX.out.bel HB2.out).c6
  go_wp2_with fail
  refine h3.mono ?_; rintro e w3 ⟨rfl, hb3⟩
  have HB3 := hid_intro (vb_t HB2.out hb3)
  have HI3 := hid_intro (HI2.out.kept hb3)
  have h4 := HCO.out w3 HB3.out
  clear h3 hb3 x0 x1 x2 x3 x4 x5
  obtain ⟨x0, x1, x2, x3, x4, x5⟩ := (HKX.out.bel HB3.out).c6
  go_wp2_with fail
  refine h4.mono ?_; rintro e w4 ⟨⟨bc, rfl⟩, hb4⟩
  have HB4 := hid_intro (vb_t HB3.out hb4)
  have HI4 := hid_intro (HI3.out.kept hb4)
  clear h4 hb4 x0 x1 x2 x3 x4 x5
  cases bc
  case true =>
    have h5 := HHD.out w4 HB4.out
    go_wp2_with fail
    refine h5.mono ?_; rintro e w9 ⟨rfl, hb9⟩
    go_wp2_with fail
    rw [HP.out]
    exact ⟨rfl, vb_t HBW.out (vb_t HB4.out hb9)⟩
  have h5 := HCX.out w4 HB4.out
  obtain ⟨x0, x1, x2, x3, x4, x5⟩ := (HKX.out.bel HB4.out).c6
  go_wp2_with fail
  refine h5.mono ?_; rintro e w5 ⟨sa', rfl, hsa, hb5⟩
  have HB5 := hid_intro (vb_t HB4.out hb5)
  have HI5 := hid_intro (HI4.out.kept hb5)
  have HSA := hid_intro hsa
  have h6 := HFW.out w5 HB5.out _ hsa
  clear h5 hb5 hsa x0 x1 x2 x3 x4 x5 q3 q5 q5' q6 q6' hW
  go_wp2_with fail
  refine h6.mono ?_; rintro e w6 ⟨v6, E, rfl, ho6, hen, hb6⟩
  obtain ⟨vo, vc, rfl, _⟩ := ho6.form
  have HB6 := hid_intro (vb_t HB5.out hb6)
  have HI6 := hid_intro (HI5.out.kept hb6)
  have HEN := hid_intro hen
  have HO6 := hid_intro ho6
  have h7 := HFX.out w6 HB6.out _ (HSA.out.kept hb6)
  clear h6 hb6 ho6 hen
  go_wp2_with fail
  refine h7.mono ?_; rintro e w7 ⟨bp, np, rfl, hp, hb7⟩
  have HB7 := hid_intro (vb_t HB6.out hb7)
  have HI7 := hid_intro (HI6.out.kept hb7)
  have HQ1 := hid_intro (sr_mx HRS.out.1 (hp HRS.out.2))
  have HO7 := hid_intro (HO6.out.bel hb7)
  have h8 := HME1.out w7 HB7.out HI7.out 0 (Nat.zero_le _)
  clear h7 hb7 hp
  obtain ⟨x0, x1, x2, x3, x4, x5⟩ := (HKX.out.bel HB7.out).c6
  have h8' : Calls Tryz.prog 23 #[.agg #[.int .i64 k, .slice a1 n1 c1, .int .i64 lo, .int .i64 hi, .bool z, .slice a2 n2 c2], .slice ro t.length rc, .int .i64 0] w7 _ := h8
  clear h8
  go_wp2_with fail
  refine h8'.mono ?_; rintro e w9 ⟨g8, rfl, ho8, hb8⟩
  have HB9 := hid_intro (vb_t HB7.out hb8)
  have HI9 := hid_intro (HI7.out.kept hb8)
  have HO9 := hid_intro (HO7.out.bel hb8)
  have HWT := hid_intro ho8
  clear h8' hb8 ho8 x0 x1 x2 x3 x4 x5
  have htI : (t.length : Int) ≤ 12 := by have := HTL.out; omega
  go_wp2_with fail
  go_loopg [17, 18, 19] (t.length + 1) (fun mm s17 s18 s19 wr => ∃ (kk : Nat) (E' : List Int) (vo' : Option Addr) (vc' : Nat) (sm : Bool), mm = t.length + 1 - kk ∧ s17 = .slice vo' E'.length vc' ∧ s18 = .bool sm ∧ s19 = .int .i64 (kk : Int) ∧ Hid (kk ≤ t.length + 1) ∧ Hid (OwnI wr w9.heap.size (.slice vo' E'.length vc') E' ∧ EnP (nfaL x) t kk E' ∧ Below w9.heap.size w9 wr) ∧ Hid (sm = true ↔ ∃ p, p < kk ∧ ∃ q, q ≤ t.length ∧ MX x t p q))
  case atStart => exact ⟨0, [], none, 0, false, rfl, rfl, rfl, rfl, Nat.zero_le _, ⟨OwnI.nil _ _, rfl, Below.refl _ _⟩, ⟨fun h => absurd h (by simp), fun ⟨p, h, _⟩ => absurd h (Nat.not_lt_zero p)⟩⟩
  case round =>
    obtain ⟨kk, E', vo', vc', sm, rfl, rfl, rfl, rfl, HKK, HI, HSM⟩ := hrel
    obtain ⟨wo, hwo⟩ : ∃ wo, wo = wr := ⟨_, rfl⟩
    subst hwo
    by_cases hle : (kk : Int) ≤ (t.length : Int)
    · have HLE : Hid (kk ≤ t.length) := hid_intro (by omega)
      have HK1 : Hid (kk < t.length + 1) := hid_intro (by have := HLE.out; omega)
      have hkI : (kk : Int) < (t.length : Int) + 1 := by omega
      have hkN : kk < t.length + 1 := by omega
      by_cases hMX : MX x t 0 kk
      · have c1 : wo.cell? ⟨g8, kk, none⟩ = some (.int .i64 1) := by rw [(HWT.out.bel HI.out.2.2).mark HK1.out, mkS_1 HK1.out hMX]
        have HDN := hid_intro ((dn_mx HRS.out.1 HLE.out).2 hMX)
        have HSZ : Hid (w9.heap.size ≤ wo.heap.size) := hid_intro HI.out.2.2.size
        have HEL : Hid (E'.length ≤ 1099511627776) := hid_intro (by have := HI.out.2.1.len; have := HLE.out; have := HTL.out; omega)
        have HKI : Hid (I64 (kk : Int)) := hid_intro (I64_of (by omega) (by have := HLE.out; have := HTL.out; omega))
        have HNX : Hid (∀ (w5 : World) (g cap : Nat), OwnI w5 w9.heap.size (.slice (some ⟨g, 0, none⟩) (E'.length + 1) cap) (E' ++ [(kk : Int)]) → (wo.alloc (.cells #[.int .i64 (kk : Int)] 3)).grownBy w5 (Value.slice vo' E'.length vc').ownBlock → OwnI w5 w9.heap.size (.slice (some ⟨g, 0, none⟩) (E'.length + 1) cap) (E' ++ [(kk : Int)]) ∧ EnP (nfaL x) t (kk + 1) (E' ++ [(kk : Int)]) ∧ Below w9.heap.size w9 w5) := hid_intro (fun w5 g cap ho hg => ⟨ho, ⟨E', HI.out.2.1, Or.inl ⟨HDN.out, rfl⟩⟩, Below.grown (HI.out.2.2.alloc HSZ.out _) hg (Nat.le_trans HSZ.out (by simp)) (fun b hb => (HI.out.1.lt hb).1)⟩)
        clear hMX
        go_wp2_with (at_builtin; refine wpList_append_i rfl _ _ rfl w9.heap.size (.slice vo' E'.length vc') E' rfl HI.out.1 HSZ.out HEL.out (kk : Int) HKI.out _ rfl rfl ?_; intro g cap w5 ho5 hg5 hloc; have HT := hid_intro (HNX.out w5 g cap ho5 hg5); clear ho5 hg5 hloc; obtain ⟨x0, x1, x2, x3, x4, x5⟩ := (HKX.out.bel (vb_t HB9.out HT.out.2.2)).c6; have hmn := HME1.out w5 (vb_t HB9.out HT.out.2.2) (HI9.out.kept HT.out.2.2) kk HLE.out)
        refine hmn.mono ?_; rintro e w6 ⟨g6, rfl, ho6, hb6⟩
        have HM6 := hid_intro ho6
        have HB6 := hid_intro hb6
        have HT6 := hid_intro (And.intro (HT.out.1.bel hb6) (And.intro HT.out.2.1 (vb_t HT.out.2.2 hb6)))
        clear hmn ho6 hb6 x0 x1 x2 x3 x4 x5 hkI hkN c1
        go_wp2_with fail
        go_loopg [18, 21] (t.length + 1) (fun mm s18 s21 wq => ∃ (j : Nat) (sb : Bool), mm = t.length + 1 - j ∧ s18 = .bool sb ∧ s21 = .int .i64 (j : Int) ∧ Hid (j ≤ t.length + 1) ∧ Hid (Below w6.heap.size w6 wq) ∧ Hid (sb = true ↔ (sm = true ∨ ∃ q, q < j ∧ MX x t kk q)))
        case atStart => exact ⟨0, sm, rfl, rfl, rfl, Nat.zero_le _, Below.refl _ _, ⟨Or.inl, fun h => h.elim id (fun ⟨q, h, _⟩ => absurd h (Nat.not_lt_zero q))⟩⟩
        case round =>
          obtain ⟨j, sb, rfl, rfl, rfl, HJ, HBJ, HSB⟩ := hrel
          by_cases hjl : (j : Int) ≤ (t.length : Int)
          · have HJ1 : Hid (j < t.length + 1) := hid_intro (by omega)
            have hjI : (j : Int) < (t.length : Int) + 1 := by omega
            have hjN : j < t.length + 1 := by omega
            cases sb
            · by_cases hMJ : MX x t kk j
              · have c2 : wr.cell? ⟨g6, j, none⟩ = some (.int .i64 1) := by rw [(HM6.out.bel HBJ.out).mark HJ1.out, mkS_1 HJ1.out hMJ]
                have HS3 : Hid (sm = true ∨ ∃ q, q < j + 1 ∧ MX x t kk q) := hid_intro (Or.inr ⟨j, Nat.lt_succ_self j, hMJ⟩)
                clear hMJ
                go_wp2_with fail
                go_roundg (t.length + 1 - (j + 1))
                case measure => have := HJ1.out; omega
                case rel => exact ⟨j + 1, _, rfl, rfl, by simp, HJ1.out, HBJ.out, ⟨fun _ => HS3.out, fun _ => rfl⟩⟩
              · have c2 : wr.cell? ⟨g6, j, none⟩ = some (.int .i64 0) := by rw [(HM6.out.bel HBJ.out).mark HJ1.out, mkS_0 HJ1.out hMJ]
                have HS2 : Hid (false = true ↔ (sm = true ∨ ∃ q, q < j + 1 ∧ MX x t kk q)) := hid_intro (HSB.out.trans ⟨fun h => h.imp id (fun ⟨q, h1, h2⟩ => ⟨q, Nat.lt_succ_of_lt h1, h2⟩), fun h => h.imp id (fun ⟨q, h1, h2⟩ => ⟨q, by
                  by_cases e : q = j
                  · subst e; exact absurd h2 hMJ
                  · omega, h2⟩)⟩)
                clear hMJ
                go_wp2_with fail
                go_roundg (t.length + 1 - (j + 1))
                case measure => have := HJ1.out; omega
                case rel => exact ⟨j + 1, _, rfl, rfl, by simp, HJ1.out, HBJ.out, HS2.out⟩
            · have HS3 : Hid (sm = true ∨ ∃ q, q < j + 1 ∧ MX x t kk q) := hid_intro ((HSB.out.1 rfl).imp id (fun ⟨q, h1, h2⟩ => ⟨q, Nat.lt_succ_of_lt h1, h2⟩))
              go_wp2_with fail
              go_roundg (t.length + 1 - (j + 1))
              case measure => have := HJ1.out; omega
              case rel => exact ⟨j + 1, _, rfl, rfl, by simp, HJ1.out, HBJ.out, ⟨fun _ => HS3.out, fun _ => rfl⟩⟩
          · have HJE : Hid (j = t.length + 1) := hid_intro (by have := HJ.out; omega)
            have HS2 : Hid (sb = true ↔ ∃ p, p < kk + 1 ∧ ∃ q, q ≤ t.length ∧ MX x t p q) := hid_intro (by
              rw [HSB.out, HSM.out, HJE.out]
              constructor
              · rintro (⟨p, h1, h2⟩ | ⟨q, h1, h2⟩)
                · exact ⟨p, Nat.lt_succ_of_lt h1, h2⟩
                · exact ⟨kk, Nat.lt_succ_self kk, q, by omega, h2⟩
              · rintro ⟨p, h1, q, h2, h3⟩
                by_cases e : p = kk
                · subst e; exact Or.inr ⟨q, by omega, h3⟩
                · exact Or.inl ⟨p, by omega, q, h2, h3⟩)
            have hkm : (kk : Int) + 1 ≤ 9223372036854775807 := by have := HLE.out; have := HTL.out; omega
            go_wp2_with fail
            go_roundg (t.length + 1 - (kk + 1))
            case measure => have := HK1.out; omega
            case rel => exact ⟨kk + 1, (E' ++ [(kk : Int)]), (some ⟨g, 0, none⟩), cap, sb, rfl, by simp, rfl, by simp, HK1.out, ⟨by have := HT6.out.1.bel HBJ.out; simpa using this, HT6.out.2.1, vb_t HT6.out.2.2 HBJ.out⟩, HS2.out⟩
      · have c1 : wo.cell? ⟨g8, kk, none⟩ = some (.int .i64 0) := by rw [(HWT.out.bel HI.out.2.2).mark HK1.out, mkS_0 HK1.out hMX]
        have HT : Hid (OwnI wo w9.heap.size (.slice vo' E'.length vc') E' ∧ EnP (nfaL x) t (kk + 1) E' ∧ Below w9.heap.size w9 wo) := hid_intro ⟨HI.out.1, ⟨E', HI.out.2.1, Or.inr ⟨fun h => hMX ((dn_mx HRS.out.1 HLE.out).1 h), rfl⟩⟩, HI.out.2.2⟩
        obtain ⟨x0, x1, x2, x3, x4, x5⟩ := (HKX.out.bel (vb_t HB9.out HT.out.2.2)).c6
        have hmn := HME1.out wo (vb_t HB9.out HT.out.2.2) (HI9.out.kept HT.out.2.2) kk HLE.out
        clear hMX
        go_wp2_with fail
        refine hmn.mono ?_; rintro e w6 ⟨g6, rfl, ho6, hb6⟩
        have HM6 := hid_intro ho6
        have HB6 := hid_intro hb6
        have HT6 := hid_intro (And.intro (HT.out.1.bel hb6) (And.intro HT.out.2.1 (vb_t HT.out.2.2 hb6)))
        clear hmn ho6 hb6 x0 x1 x2 x3 x4 x5 hkI hkN c1
        go_wp2_with fail
        go_loopg [18, 21] (t.length + 1) (fun mm s18 s21 wq => ∃ (j : Nat) (sb : Bool), mm = t.length + 1 - j ∧ s18 = .bool sb ∧ s21 = .int .i64 (j : Int) ∧ Hid (j ≤ t.length + 1) ∧ Hid (Below w6.heap.size w6 wq) ∧ Hid (sb = true ↔ (sm = true ∨ ∃ q, q < j ∧ MX x t kk q)))
        case atStart => exact ⟨0, sm, rfl, rfl, rfl, Nat.zero_le _, Below.refl _ _, ⟨Or.inl, fun h => h.elim id (fun ⟨q, h, _⟩ => absurd h (Nat.not_lt_zero q))⟩⟩
        case round =>
          obtain ⟨j, sb, rfl, rfl, rfl, HJ, HBJ, HSB⟩ := hrel
          by_cases hjl : (j : Int) ≤ (t.length : Int)
          · have HJ1 : Hid (j < t.length + 1) := hid_intro (by omega)
            have hjI : (j : Int) < (t.length : Int) + 1 := by omega
            have hjN : j < t.length + 1 := by omega
            cases sb
            · by_cases hMJ : MX x t kk j
              · have c2 : wr.cell? ⟨g6, j, none⟩ = some (.int .i64 1) := by rw [(HM6.out.bel HBJ.out).mark HJ1.out, mkS_1 HJ1.out hMJ]
                have HS3 : Hid (sm = true ∨ ∃ q, q < j + 1 ∧ MX x t kk q) := hid_intro (Or.inr ⟨j, Nat.lt_succ_self j, hMJ⟩)
                clear hMJ
                go_wp2_with fail
                go_roundg (t.length + 1 - (j + 1))
                case measure => have := HJ1.out; omega
                case rel => exact ⟨j + 1, _, rfl, rfl, by simp, HJ1.out, HBJ.out, ⟨fun _ => HS3.out, fun _ => rfl⟩⟩
              · have c2 : wr.cell? ⟨g6, j, none⟩ = some (.int .i64 0) := by rw [(HM6.out.bel HBJ.out).mark HJ1.out, mkS_0 HJ1.out hMJ]
                have HS2 : Hid (false = true ↔ (sm = true ∨ ∃ q, q < j + 1 ∧ MX x t kk q)) := hid_intro (HSB.out.trans ⟨fun h => h.imp id (fun ⟨q, h1, h2⟩ => ⟨q, Nat.lt_succ_of_lt h1, h2⟩), fun h => h.imp id (fun ⟨q, h1, h2⟩ => ⟨q, by
                  by_cases e : q = j
                  · subst e; exact absurd h2 hMJ
                  · omega, h2⟩)⟩)
                clear hMJ
                go_wp2_with fail
                go_roundg (t.length + 1 - (j + 1))
                case measure => have := HJ1.out; omega
                case rel => exact ⟨j + 1, _, rfl, rfl, by simp, HJ1.out, HBJ.out, HS2.out⟩
            · have HS3 : Hid (sm = true ∨ ∃ q, q < j + 1 ∧ MX x t kk q) := hid_intro ((HSB.out.1 rfl).imp id (fun ⟨q, h1, h2⟩ => ⟨q, Nat.lt_succ_of_lt h1, h2⟩))
              go_wp2_with fail
              go_roundg (t.length + 1 - (j + 1))
              case measure => have := HJ1.out; omega
              case rel => exact ⟨j + 1, _, rfl, rfl, by simp, HJ1.out, HBJ.out, ⟨fun _ => HS3.out, fun _ => rfl⟩⟩
          · have HJE : Hid (j = t.length + 1) := hid_intro (by have := HJ.out; omega)
            have HS2 : Hid (sb = true ↔ ∃ p, p < kk + 1 ∧ ∃ q, q ≤ t.length ∧ MX x t p q) := hid_intro (by
              rw [HSB.out, HSM.out, HJE.out]
              constructor
              · rintro (⟨p, h1, h2⟩ | ⟨q, h1, h2⟩)
                · exact ⟨p, Nat.lt_succ_of_lt h1, h2⟩
                · exact ⟨kk, Nat.lt_succ_self kk, q, by omega, h2⟩
              · rintro ⟨p, h1, q, h2, h3⟩
                by_cases e : p = kk
                · subst e; exact Or.inr ⟨q, by omega, h3⟩
                · exact Or.inl ⟨p, by omega, q, h2, h3⟩)
            have hkm : (kk : Int) + 1 ≤ 9223372036854775807 := by have := HLE.out; have := HTL.out; omega
            go_wp2_with fail
            go_roundg (t.length + 1 - (kk + 1))
            case measure => have := HK1.out; omega
            case rel => exact ⟨kk + 1, E', vo', vc', sb, rfl, by simp, rfl, by simp, HK1.out, ⟨by have := HT6.out.1.bel HBJ.out; simpa using this, HT6.out.2.1, vb_t HT6.out.2.2 HBJ.out⟩, HS2.out⟩
    · have hke : kk = t.length + 1 := by have := HKK.out; omega
      have hen2 := HI.out.2.1
      rw [hke] at hen2
      have hEE := EnP.uniq HEN.out hen2
      have h9 := ints_any (.slice vo E.length vc) (.slice vo' E'.length vc') E E' wo (IRow.of_own (HO9.out.bel HI.out.2.2).1) (IRow.of_own HI.out.1.1)
      rw [decide_eq_true hEE] at h9
      have hbs : bp = sm := by
        rw [Bool.eq_iff_iff, HQ1.out, HSM.out, hke]
      subst hbs
      clear hke hen2 hEE
      cases bp
      all_goals
        go_wp2_with fail
        refine h9.mono ?_; rintro e w11 ⟨rfl, nn, rfl⟩
        have h10 := HHD.out (wo.drewN nn) (vb_n (vb_t HB9.out HI.out.2.2) nn)
        clear h9
        go_wp2_with fail
        refine h10.mono ?_; rintro e w12 ⟨rfl, hb12⟩
        go_wp2_with fail
        rw [HP.out]
        exact ⟨rfl, vb_t HBW.out (vb_t (vb_n (vb_t HB9.out HI.out.2.2) nn) hb12)⟩
theorem pmeans_walk (x : RX) (fx : Nat → Value) (s : ByteArray) (hs : s.size ≤ 1048576) (W0 : World) (hT : Tab W0) (hg0 : 0 < W0.heap.size) (X : Nat → Prop) (hbx : BdX 1048576 x) (hvx : XI W0 X x fx) :
    Calls Tryz.prog 5 #[xa fx, .string s] W0 fun e w' => e = .returned (.bool true) ∧ Below W0.heap.size W0 w' := by
  by_cases h : MeansIn x s
  · exact pmeans_asks x fx s hs W0 hT hg0 hbx (hvx.weak fun _ h => h.elim) h
  · exact pmeans_guard x fx s hs W0 hT hg0 X (hbx.mono (by omega)) hvx h
end Go.Proofs.YtoinlmfodmgohaaGreatDoor
