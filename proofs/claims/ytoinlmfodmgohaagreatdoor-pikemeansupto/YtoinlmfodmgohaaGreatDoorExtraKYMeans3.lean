/-
  What means answers of counts. Conditions: at most 2^20 places.
-/
import Derived.Test.YtoinlmfodmgohaaGreatDoorExtraKYMeans1
import Derived.Test.YtoinlmfodmgohaaGreatDoorJoined39
namespace Go.Proofs.YtoinlmfodmgohaaGreatDoor
open Go.RowKit Go.Maps
attribute [local go_sem] setCell_drewN alloc_drewN

theorem ms_one {s : List RX} (h : 0 < s.length) (h1 : s.length = 1) (t : List Int) : MS s t = MX s[0] t := by
  match s, h, h1 with
  | [y], _, _ =>
    funext p q
    simp only [MS, List.getElem_cons_zero]
    apply propext
    constructor
    · rintro ⟨u, h, rfl⟩; exact h
    · intro h; exact ⟨q, h, rfl⟩
theorem pw_hi {R : Nat → Nat → Prop} {L : Nat} (h : ∀ p q, R p q → p ≤ L → q ≤ L) : ∀ c p q, PwR R c p q → p ≤ L → q ≤ L
  | 0, p, q, hm, hp => by have : q = p := hm; omega
  | c + 1, p, q, ⟨u, h1, h2⟩, hp => pw_hi h c u q h2 (h p u h1 hp)
theorem out_mono {R : Nat → Nat → Prop} {S : Nat → Prop} {i j q : Nat} (h : i ≤ j) : OutR R S i q → OutR R S j q := by
  rintro ⟨u, h1, m, hm, h2⟩; exact ⟨u, h1, m, by omega, h2⟩
theorem mx_5 (r : List (Int × Int)) (m : Nat) (hi : Int) (z : Bool) {s : List RX} (h : 0 < s.length) (h1 : s.length = 1) (t : List Int) (p q : Nat) :
    MX (.mk 5 r (m : Int) hi z s) t p q ↔ (hi = -1 ∧ ∃ j, OutR (MX s[0] t) (PwR (MX s[0] t) m p) j q) ∨ (hi ≠ -1 ∧ OutR (MX s[0] t) (PwR (MX s[0] t) m p) (hi - (m : Int)).toNat q) := by
  rw [MX]
  simp only [ms_one h h1 t, Int.toNat_natCast]
  simp (config := {decide := true}) only [↓reduceIte]
  by_cases e : hi = -1
  · simp only [e, if_true, true_and, not_true_eq_false, false_and, or_false, ne_eq]
    constructor
    · rintro ⟨u, k1, k2⟩
      obtain ⟨j, k3⟩ := str_le.1 k2
      exact ⟨j, u, k1, j, Nat.le_refl _, k3⟩
    · rintro ⟨j, u, k1, j', _, k3⟩
      exact ⟨u, k1, str_le.2 ⟨j', k3⟩⟩
  · simp only [e, if_false, false_and, false_or, not_false_eq_true, true_and, ne_eq]
    constructor
    · rintro ⟨u, k1, k2⟩; exact ⟨u, k1, (op_le _ _ _).1 k2⟩
    · rintro ⟨u, k1, k2⟩; exact ⟨u, k1, (op_le _ _ _).2 k2⟩
set_option maxRecDepth 100000 in
set_option maxHeartbeats 12800000 in
theorem means_5 (r : List (Int × Int)) (m : Nat) (hi : Int) (z : Bool) (s : List RX) (t : List Int) (tv : Value) (hlt : t.length ≤ 1048576) (hsub : ∀ y ∈ s, MnC y t tv) (hhi : ∀ y ∈ s, ∀ p q, MX y t p q → p ≤ t.length → q ≤ t.length) (h1 : s.length = 1) (hm : m ≤ 1000) (hhl : hi = -1 ∨ (m : Int) ≤ hi ∧ hi ≤ 1000) : MnC (.mk 5 r (m : Int) hi z s) t tv := by
  intro f w hv hI p hp
  cases hv with
  | mk ao cap G f0 f1 f2 f3 f4 f5 hc hw hl hr =>
  obtain ⟨a1, c1, e1, _⟩ := f1.shape
  have exa : xa f = .agg #[.int .i64 5, .slice a1 r.length c1, .int .i64 (m : Int), .int .i64 hi, .bool z, .slice ao s.length cap] := by unfold xa; rw [f0, e1, f2, f3, f4, f5]
  obtain ⟨ta, tc, rfl⟩ : ∃ ta tc, tv = .slice ta t.length tc := by obtain ⟨ta, tc, rfl, _⟩ := hI; exact ⟨ta, tc, rfl⟩
  obtain ⟨n, hn⟩ : ∃ n, t.length + 1 = n := ⟨_, rfl⟩
  have hnI : (n : Int) ≤ 1048577 := by omega
  have hlI : (s.length : Int) ≤ 9223372036854775807 := by have := hc.1; have := hc.2; unfold maxLen at this; omega
  have htI : (t.length : Int) + 1 ≤ 9223372036854775807 := by omega
  obtain ⟨P, hP⟩ : ∃ P : Ending → World → Prop, P = fun e w' => ∃ g, e = .returned (.slice (some ⟨g, 0, none⟩) n n) ∧ OwnI w' w.heap.size (.slice (some ⟨g, 0, none⟩) n n) (mkS n (MX (.mk 5 r (m : Int) hi z s) t p)) ∧ Below w.heap.size w w' := ⟨_, rfl⟩
  obtain ⟨W, hW⟩ : ∃ W, w.alloc (.cells #[.int .i64 5, .slice a1 r.length c1, .int .i64 (m : Int), .int .i64 hi, .bool z, .slice ao s.length cap] 31) = W := ⟨_, rfl⟩
  have hbW : Below w.heap.size w W := hW ▸ vb_a (Below.refl _ _) _
  have kX : Bk W w.heap.size #[.int .i64 5, .slice a1 r.length c1, .int .i64 (m : Int), .int .i64 hi, .bool z, .slice ao s.length cap] := hW ▸ Bk.new _ _ _
  have hmk : ∀ w, (Instr.makeSlice 32 (.int .i64 ((t.length : Int) + 1)) (.int .i64 ((t.length : Int) + 1))).run Tryz.prog w = .ok (.slice (some ⟨w.heap.size, 0, none⟩) n n) (w.alloc (.cells (madeCells #[.int .i64 0] n) 3)) := fun w => by
    have := make_int n (by omega) w
    rw [show ((n : Nat) : Int) = (t.length : Int) + 1 by omega] at this
    exact this
  have hm1 := made_int n (by omega) W w.heap.size hbW.size
  obtain ⟨W1, hW1⟩ : ∃ W1, W.alloc (.cells (madeCells #[.int .i64 0] n) 3) = W1 := ⟨_, rfl⟩
  have hb1 : Below W.heap.size W W1 := hW1 ▸ vb_a (Below.refl _ _) _
  rw [hW1] at hm1
  have hWs : W.heap.size = w.heap.size + 1 := by rw [← hW]; simp
  have hb01 := vb_t hbW hb1
  have hpn : p < n := by omega
  have hpI : (p : Int) < (n : Int) := by omega
  rw [exa, hn, ← hP]
  have HP := hid_intro hP
  have HW := hid_intro hW
  have HW1 := hid_intro hW1
  have HK := hid_intro (kX.bel hb1)
  have HB1 := hid_intro hb01
  have HM1 := hid_intro hm1
  have HN := hid_intro hn
  have HLI := hid_intro hlI
  have HL : Hid (∀ w', Below w.heap.size w w' → (s = [] ∨ ∃ b off, ao = some ⟨b, off, none⟩ ∧ ∀ i, i < s.length → ∀ j, j < 6 → w'.cell? ⟨b, off + i * 6 + j, none⟩ = some (G i j))) := hid_intro (fun w' hb => by
    rcases hl with hl | ⟨b, off, h1, _, h3⟩
    · exact .inl hl
    · exact .inr ⟨b, off, h1, fun i hi j hj => by rw [hb.cell (p := ⟨b, off + i * 6 + j, none⟩) (World.block_lt_of_cell? w _ (h3 i hi j hj))]; exact h3 i hi j hj⟩)
  have HO : Hid (∀ w' i (h : i < s.length), Below w.heap.size w w' → ∀ S gf Bf, OwnI w' Bf (.slice (some ⟨gf, 0, none⟩) n n) (mkS n S) → Calls Tryz.prog 46 #[.agg #[G i 0, G i 1, G i 2, G i 3, G i 4, G i 5], .slice ta t.length tc, .slice (some ⟨gf, 0, none⟩) n n] w' fun e w2 => ∃ g, e = .returned (.slice (some ⟨g, 0, none⟩) n n) ∧ OwnI w2 w'.heap.size (.slice (some ⟨g, 0, none⟩) n n) (mkS n (fun q => ∃ u, u < n ∧ S u ∧ MX s[i] t u q)) ∧ Below w'.heap.size w' w2) :=
    hid_intro (fun w' i h hb S gf Bf ho => by
      have := onward_of s[i] t _ hlt (hsub s[i] (List.getElem_mem h)) (G i) w' ((hr i h).kept hb |>.weak fun _ h => h.elim) (hI.kept hb) S gf Bf (by rw [hn]; exact ho)
      rw [hn] at this
      exact this)
  have hc1 : W1.cell? ⟨W.heap.size, p, none⟩ = some (.int .i64 0) := by rw [hm1.mark hpn, mkS_0 hpn (fun h => h)]
  have hf1 : W1.frozen? ⟨W.heap.size, p, none⟩ = false := hm1.thaw p
  have HS1 : Hid (OwnI (W1.setCell ⟨W.heap.size, p, none⟩ (.int .i64 1)) w.heap.size (.slice (some ⟨W.heap.size, 0, none⟩) n n) (mkS n (fun q => q = p))) := hid_intro (hm1.put1 hpn (fun y _ => ⟨fun h => h.elim (fun h => h.elim) id, Or.inr⟩))
  have HBS : Hid (Below w.heap.size w (W1.setCell ⟨W.heap.size, p, none⟩ (.int .i64 1))) := hid_intro (vb_s hb01 hbW.size _)
  obtain ⟨k0, k1, k2, k3, k4, k5⟩ := (kX.bel hb1).c6
  have h0 : 0 < s.length := by omega
  obtain ⟨R, hR⟩ : ∃ R, MX s[0] t = R := ⟨_, rfl⟩
  have hRhi : ∀ p q, R p q → p ≤ t.length → q ≤ t.length := by rw [← hR]; exact hhi s[0] (List.getElem_mem h0)
  have HMX := hid_intro (fun q => mx_5 r m hi z h0 h1 t p q)
  rw [hR] at HMX
  have HPW : Hid (∀ i u, PwR R i p u → u < n) := hid_intro (fun i u h => by have := pw_hi hRhi i p u h hp; omega)
  obtain ⟨S0, hS0⟩ : ∃ S0, PwR R m p = S0 := ⟨_, rfl⟩
  rw [hS0] at HMX
  have HIN : Hid (∀ j u, OutR R S0 j u → u < n) := hid_intro (fun j u h => by
    obtain ⟨v, k1, i, _, k2⟩ := h
    rw [← hS0] at k1
    have := pw_hi hRhi i v u k2 (pw_hi hRhi m p v k1 hp)
    omega)
  have HS0 := hid_intro hS0
  have HO0 : Hid (∀ w', Below w.heap.size w w' → ∀ S gf Bf, OwnI w' Bf (.slice (some ⟨gf, 0, none⟩) n n) (mkS n S) → Calls Tryz.prog 46 #[.agg #[G 0 0, G 0 1, G 0 2, G 0 3, G 0 4, G 0 5], .slice ta t.length tc, .slice (some ⟨gf, 0, none⟩) n n] w' fun e w2 => ∃ g, e = .returned (.slice (some ⟨g, 0, none⟩) n n) ∧ OwnI w2 w'.heap.size (.slice (some ⟨g, 0, none⟩) n n) (mkS n (fun q => ∃ u, u < n ∧ S u ∧ R u q)) ∧ Below w'.heap.size w' w2) :=
    hid_intro (fun w' hb S gf Bf ho => by have := HO.out w' 0 h0 hb S gf Bf ho; rw [hR] at this; exact this)
  have HJ : Hid (∀ w' S T ga gb Ba Bb, OwnI w' Ba (.slice (some ⟨ga, 0, none⟩) n n) (mkS n S) → OwnI w' Bb (.slice (some ⟨gb, 0, none⟩) n n) (mkS n T) → Calls Tryz.prog 45 #[.slice (some ⟨ga, 0, none⟩) n n, .slice (some ⟨gb, 0, none⟩) n n] w' fun e w2 => ∃ g, e = .returned (.slice (some ⟨g, 0, none⟩) n n) ∧ OwnI w2 w'.heap.size (.slice (some ⟨g, 0, none⟩) n n) (mkS n (fun x => S x ∨ T x)) ∧ Below w'.heap.size w' w2) :=
    hid_intro (fun w' S T ga gb Ba Bb h1 h2 => join_any n (by omega) S T ga gb Ba Bb w' h1 h2)
  have HL0 : Hid (∀ w', Below w.heap.size w w' → ∃ b off, ao = some ⟨b, off, none⟩ ∧ w'.cell? ⟨b, off, none⟩ = some (G 0 0) ∧ w'.cell? ⟨b, off + 1, none⟩ = some (G 0 1) ∧ w'.cell? ⟨b, off + 2, none⟩ = some (G 0 2) ∧ w'.cell? ⟨b, off + 3, none⟩ = some (G 0 3) ∧ w'.cell? ⟨b, off + 4, none⟩ = some (G 0 4) ∧ w'.cell? ⟨b, off + 5, none⟩ = some (G 0 5)) := hid_intro (fun w' hb => by
    obtain ⟨b, off, e, h3⟩ := (HL.out w' hb).resolve_left (fun e => by rw [e] at h0; exact absurd h0 (by simp))
    have q := fun j hj => h3 0 h0 j hj
    simp only [Nat.zero_mul, Nat.add_zero] at q
    exact ⟨b, off, e, q 0 (by omega), q 1 (by omega), q 2 (by omega), q 3 (by omega), q 4 (by omega), q 5 (by omega)⟩)
  have HKS : Hid (Bk (W1.setCell ⟨W.heap.size, p, none⟩ (.int .i64 1)) w.heap.size #[.int .i64 5, .slice a1 r.length c1, .int .i64 (m : Int), .int .i64 hi, .bool z, .slice ao s.length cap]) := hid_intro ((kX.bel hb1).away (by show w.heap.size ≠ W.heap.size; omega))
  have HMM := hid_intro hm
  have HHL := hid_intro hhl
  have HSL := hid_intro h0
  clear HO HL
  clear hP hl hr hI exa f1 hWs kX hbW hb1 hb01 hm1 hn hlt hw hc hp hsub hhi hpn hlI hR hRhi hS0 h1 hm hhl h0
  go_enter Tryz.func23, Tryz.ntmps23
  go_wp2_with fail
  clear k0 k1 k2 k3 k4 k5 hc1 hf1 hW hW1 hmk
  obtain ⟨W2, hW2⟩ : ∃ W2, W1.setCell ⟨W.heap.size, p, none⟩ (.int .i64 1) = W2 := ⟨_, rfl⟩
  rw [hW2] at HS1 HBS HKS ⊢
  clear hW2
  go_loopg [7, 14] m (fun mm s7 s14 wr => ∃ (i gr : Nat), i ≤ m ∧ mm = m - i ∧ s7 = .slice (some ⟨gr, 0, none⟩) n n ∧ s14 = .int .i64 (i : Int) ∧ Hid (OwnI wr w.heap.size (.slice (some ⟨gr, 0, none⟩) n n) (mkS n (PwR R i p)) ∧ Below W2.heap.size W2 wr))
  case atStart => exact ⟨0, W.heap.size, Nat.zero_le _, rfl, rfl, rfl, HS1.out.turn (fun y _ => Iff.rfl), Below.refl _ _⟩
  case round =>
    obtain ⟨i, gr, hi', rfl, rfl, rfl, HI⟩ := hrel
    obtain ⟨a0, a1', a2, a3, a4, a5⟩ := (HKS.out.bel HI.out.2).c6
    by_cases hlt0 : (i : Int) < (m : Int)
    · have HLT : Hid (i < m) := hid_intro (by omega)
      obtain ⟨b, off, rfl, g0, g1, g2, g3, g4, g5⟩ := HL0.out wr (vb_t HBS.out HI.out.2)
      have h1 := HO0.out wr (vb_t HBS.out HI.out.2) _ gr _ HI.out.1
      have hsl := HSL.out
      have hi2 : (i : Int) + 1 ≤ 9223372036854775807 := by have := HMM.out; have := HLT.out; omega
      go_wp2_with fail
      refine h1.mono ?_; rintro e w3 ⟨g3', rfl, ho3, hb3⟩
      have HB3 := hid_intro (vb_t HI.out.2 hb3)
      have HO3 : Hid (OwnI w3 w.heap.size (.slice (some ⟨g3', 0, none⟩) n n) (mkS n (PwR R (i + 1) p))) := hid_intro ((ho3.mono (vb_t HBS.out HI.out.2).size).turn (fun q _ => by
        rw [PwR.snoc]
        constructor
        · rintro ⟨u, _, h2, h3⟩; exact ⟨u, h2, h3⟩
        · rintro ⟨u, h2, h3⟩; exact ⟨u, HPW.out i u h2, h2, h3⟩))
      clear h1 ho3 hb3
      go_wp2_with fail
      go_roundg (m - (i + 1))
      case measure => have := HLT.out; omega
      case rel => exact ⟨i + 1, g3', HLT.out, rfl, rfl, by simp, HO3.out, HB3.out⟩
    · have hie : i = m := by omega
      have HIE := hid_intro hie
      have HM0 : Hid (OwnI wr w.heap.size (.slice (some ⟨gr, 0, none⟩) n n) (mkS n (OutR R S0 0)) ∧ Below W2.heap.size W2 wr) := hid_intro ⟨HI.out.1.turn (fun q _ => by rw [out_0, ← HS0.out, HIE.out]), HI.out.2⟩
      clear hie
      go_wp2_with fail
      clear a0 a1' a2 a3 a4 a5
      obtain ⟨wb, rfl⟩ : ∃ wb, wb = wr := ⟨_, rfl⟩
      go_loopg [7, 15] (n - cardS (OutR R S0 0) n) (fun mm s7 s15 wr => ∃ (j gr : Nat) (x : Int), mm = n - cardS (OutR R S0 j) n ∧ s7 = .slice (some ⟨gr, 0, none⟩) n n ∧ s15 = .int .i64 x ∧ Hid (x = (m : Int) + (j : Int)) ∧ Hid (j ≤ cardS (OutR R S0 j) n) ∧ Hid (OwnI wr w.heap.size (.slice (some ⟨gr, 0, none⟩) n n) (mkS n (OutR R S0 j)) ∧ Below W2.heap.size W2 wr) ∧ Hid (hi = -1 ∨ (m : Int) + (j : Int) ≤ hi))
      case atStart => exact ⟨0, gr, _, rfl, rfl, rfl, by show (m : Int) = (m : Int) + ((0 : Nat) : Int); omega, Nat.zero_le _, HM0.out, by have := HHL.out; show hi = -1 ∨ (m : Int) + ((0 : Nat) : Int) ≤ hi; omega⟩
      case round =>
        obtain ⟨j, gj, x, rfl, rfl, rfl, HX, HC, HI2, HH⟩ := hrel
        obtain ⟨a0, a1', a2, a3, a4, a5⟩ := (HKS.out.bel HI2.out.2).c6
        have HXI : Hid (wrap64 (x + 1) = x + 1) := hid_intro (by have := HX.out; have := HC.out; have := card_le (OutR R S0 j) n; have := HMM.out; unfold wrap64; omega)
        by_cases hgo : x < hi ∨ hi < 0
        · have HGO := hid_intro hgo
          obtain ⟨b, off, rfl, g0, g1, g2, g3, g4, g5⟩ := HL0.out wr (vb_t HBS.out HI2.out.2)
          have h1 := HO0.out wr (vb_t HBS.out HI2.out.2) _ gj _ HI2.out.1
          have HK1 : Hid (∀ e w3, (∃ g, e = Ending.returned (.slice (some ⟨g, 0, none⟩) n n) ∧ OwnI w3 wr.heap.size (.slice (some ⟨g, 0, none⟩) n n) (mkS n (fun q => ∃ u, u < n ∧ OutR R S0 j u ∧ R u q)) ∧ Below wr.heap.size wr w3) → ∃ g, e = Ending.returned (.slice (some ⟨g, 0, none⟩) n n) ∧ Below wr.heap.size wr w3 ∧ Calls Tryz.prog 45 #[.slice (some ⟨gj, 0, none⟩) n n, .slice (some ⟨g, 0, none⟩) n n] w3 fun e w4 => ∃ g', e = .returned (.slice (some ⟨g', 0, none⟩) n n) ∧ OwnI w4 w.heap.size (.slice (some ⟨g', 0, none⟩) n n) (mkS n (OutR R S0 (j + 1))) ∧ Below wr.heap.size wr w4) := hid_intro (by
            rintro e w3 ⟨g, rfl, ho3, hb3⟩
            refine ⟨g, rfl, hb3, (HJ.out w3 _ _ gj g _ _ (HI2.out.1.bel hb3) ho3).mono ?_⟩
            rintro e w4 ⟨g4, rfl, ho4, hb4⟩
            refine ⟨g4, rfl, (ho4.mono (by have := (vb_t HBS.out HI2.out.2).size; have := hb3.size; omega)).turn (fun q _ => ?_), vb_t hb3 hb4⟩
            rw [out_succ]
            constructor
            · rintro (h | ⟨u, _, h2, h3⟩)
              · exact Or.inl h
              · exact Or.inr ⟨u, h2, h3⟩
            · rintro (h | ⟨u, h2, h3⟩)
              · exact Or.inl h
              · exact Or.inr ⟨u, HIN.out j u h2, h2, h3⟩)
          have HIT : Hid (∀ w4 g', OwnI w4 w.heap.size (.slice (some ⟨g', 0, none⟩) n n) (mkS n (OutR R S0 (j + 1))) → Below wr.heap.size wr w4 → Calls Tryz.prog 17 #[.slice (some ⟨g', 0, none⟩) n n, .slice (some ⟨gj, 0, none⟩) n n] w4 fun e w5 => e = .returned (.bool (decide (mkS n (OutR R S0 (j + 1)) = mkS n (OutR R S0 j)))) ∧ ∃ k, w5 = w4.drewN k) := hid_intro (fun w4 g' ho hb => by
            exact ints_any _ _ _ _ w4 (IRow.of_own ho.1) (IRow.of_own (HI2.out.1.bel hb).1))
          have HFIX : Hid (mkS n (OutR R S0 (j + 1)) = mkS n (OutR R S0 j) → ∀ q, MX (.mk 5 r (m : Int) hi z s) t p q ↔ OutR R S0 j q) := hid_intro (fun he q => by
            have hf := out_fix HIN.out (mkS_inj he)
            rw [HMX.out q]
            constructor
            · rintro (⟨_, j', k⟩ | ⟨h2, k⟩)
              · by_cases hjj : j ≤ j'
                · exact (hf j' hjj q).1 k
                · exact out_mono (by omega) k
              · refine (hf _ ?_ q).1 k
                have := HGO.out; have := HHL.out; have := HX.out; omega
            · intro k
              by_cases e : hi = -1
              · exact Or.inl ⟨e, j, k⟩
              · refine Or.inr ⟨e, out_mono ?_ k⟩
                have := HGO.out; have := HHL.out; have := HX.out; omega)
          have HNEX : Hid (mkS n (OutR R S0 (j + 1)) ≠ mkS n (OutR R S0 j) → cardS (OutR R S0 j) n < cardS (OutR R S0 (j + 1)) n) := hid_intro (fun hne => by
            refine (card_mono (S := OutR R S0 j) (T := OutR R S0 (j + 1)) n (fun q _ h => out_mono (Nat.le_succ j) h)).2 ?_
            refine Classical.byContradiction fun hno => hne (mkS_congr fun q hq => ⟨fun h => ?_, fun h => out_mono (Nat.le_succ j) h⟩)
            exact Classical.byContradiction fun h' => hno ⟨q, hq, h, h'⟩)
          have HNH : Hid (hi = -1 ∨ (m : Int) + ((j + 1 : Nat) : Int) ≤ hi) := hid_intro (by have := HGO.out; have := HHL.out; have := HX.out; omega)
          have hsl := HSL.out
          by_cases hx1 : x < hi
          · clear hgo
            go_wp2_with fail
            refine h1.mono ?_; intro e w3 hh
            obtain ⟨g3', rfl, hb3, h2⟩ := HK1.out e w3 hh
            clear h1 hh g0 g1 g2 g3 g4 g5 a0 a1' a2 a3 a4 a5
            go_wp2_with fail
            refine h2.mono ?_; rintro e w4 ⟨g4', rfl, ho4, hb4⟩
            have h3 := HIT.out w4 g4' ho4 hb4
            have HO4 := hid_intro ho4
            have HB4 := hid_intro hb4
            clear h2 hb3 ho4 hb4
            by_cases heq : mkS n (OutR R S0 (j + 1)) = mkS n (OutR R S0 j)
            · have HEQ := hid_intro heq
              rw [decide_eq_true heq] at h3
              clear heq
              go_wp2_with fail
              refine h3.mono ?_; rintro e w5 ⟨rfl, kk, rfl⟩
              clear h3
              go_wp2_with fail
              rw [HP.out]
              exact ⟨gj, rfl, ((HI2.out.1.bel HB4.out).turn (fun q _ => (HFIX.out HEQ.out q).symm)), vb_n (vb_t HBS.out (vb_t HI2.out.2 HB4.out)) kk⟩
            · have HEQ := hid_intro heq
              rw [decide_eq_false heq] at h3
              clear heq
              go_wp2_with fail
              refine h3.mono ?_; rintro e w5 ⟨rfl, kk, rfl⟩
              clear h3
              have hxI := HXI.out
              go_wp2_with fail
              go_roundg (n - cardS (OutR R S0 (j + 1)) n)
              case measure => have := HNEX.out HEQ.out; have := card_le (OutR R S0 (j + 1)) n; omega
              case rel => exact ⟨j + 1, g4', x + 1, rfl, rfl, by rw [HXI.out], by have := HX.out; show x + 1 = (m : Int) + ((j + 1 : Nat) : Int); omega, by have := HNEX.out HEQ.out; have := HC.out; show j + 1 ≤ _; omega, ⟨HO4.out, vb_n (vb_t HI2.out.2 HB4.out) kk⟩, HNH.out⟩
          · have hx2 : hi < 0 := by have := HGO.out; omega
            clear hgo
            go_wp2_with fail
            refine h1.mono ?_; intro e w3 hh
            obtain ⟨g3', rfl, hb3, h2⟩ := HK1.out e w3 hh
            clear h1 hh g0 g1 g2 g3 g4 g5 a0 a1' a2 a3 a4 a5
            go_wp2_with fail
            refine h2.mono ?_; rintro e w4 ⟨g4', rfl, ho4, hb4⟩
            have h3 := HIT.out w4 g4' ho4 hb4
            have HO4 := hid_intro ho4
            have HB4 := hid_intro hb4
            clear h2 hb3 ho4 hb4
            by_cases heq : mkS n (OutR R S0 (j + 1)) = mkS n (OutR R S0 j)
            · have HEQ := hid_intro heq
              rw [decide_eq_true heq] at h3
              clear heq
              go_wp2_with fail
              refine h3.mono ?_; rintro e w5 ⟨rfl, kk, rfl⟩
              clear h3
              go_wp2_with fail
              rw [HP.out]
              exact ⟨gj, rfl, ((HI2.out.1.bel HB4.out).turn (fun q _ => (HFIX.out HEQ.out q).symm)), vb_n (vb_t HBS.out (vb_t HI2.out.2 HB4.out)) kk⟩
            · have HEQ := hid_intro heq
              rw [decide_eq_false heq] at h3
              clear heq
              go_wp2_with fail
              refine h3.mono ?_; rintro e w5 ⟨rfl, kk, rfl⟩
              clear h3
              have hxI := HXI.out
              go_wp2_with fail
              go_roundg (n - cardS (OutR R S0 (j + 1)) n)
              case measure => have := HNEX.out HEQ.out; have := card_le (OutR R S0 (j + 1)) n; omega
              case rel => exact ⟨j + 1, g4', x + 1, rfl, rfl, by rw [HXI.out], by have := HX.out; show x + 1 = (m : Int) + ((j + 1 : Nat) : Int); omega, by have := HNEX.out HEQ.out; have := HC.out; show j + 1 ≤ _; omega, ⟨HO4.out, vb_n (vb_t HI2.out.2 HB4.out) kk⟩, HNH.out⟩
        · have hx1 : ¬ x < hi := fun h => hgo (Or.inl h)
          have hx2 : ¬ hi < 0 := fun h => hgo (Or.inr h)
          have HOE : Hid (OwnI wr w.heap.size (.slice (some ⟨gj, 0, none⟩) n n) (mkS n (MX (.mk 5 r (m : Int) hi z s) t p))) := hid_intro (HI2.out.1.turn (fun q _ => by
            rw [HMX.out q]
            have e : (hi - (m : Int)).toNat = j := by have := HH.out; have := HX.out; omega
            rw [e]
            constructor
            · intro k; exact Or.inr ⟨by omega, k⟩
            · rintro (⟨h2, _⟩ | ⟨_, k⟩)
              · omega
              · exact k))
          clear hgo
          go_wp2_with fail
          rw [HP.out]
          exact ⟨gj, rfl, HOE.out, vb_t HBS.out HI2.out.2⟩
end Go.Proofs.YtoinlmfodmgohaaGreatDoor
