/-
  What ref.Check, ref.Trim, ref.compare and ref.Copy answer. Conditions: none but that the limbs lie there.
-/
import Derived.Test.YtmhplblmabiekaaN2
namespace Go.Proofs.Ytmhplblmabiekaa
open Go.RowKit

/-- A slice whose limbs lie in blocks from B on. -/
def From (B : Nat) (v : Value) : Prop := ∀ a n c, v = .slice (some a) n c → B ≤ a.block
theorem from_own {w : World} {B n : Nat} {v : Value} {xs : List Value} (h : w.ownsRow B 46 1 v n xs) : From B v := by
  intro a k c e
  rcases h.2 with ⟨rfl, _⟩ | ⟨g, cap, cur, rfl, hb, _⟩
  · simp at e
  · simp at e
    rw [← e.1]; exact hb
theorem from_nil (B : Nat) : From B (.slice none 0 0) := fun a n c e => by simp at e
theorem Num.set {w : World} {v : Value} {N : Int} {B : Nat} (h : Num w v N) (hf : From B v) (p : Addr) (hp : p.block < B) (u : Value) : Num (w.setCell p u) v N := by
  obtain ⟨n, f, hr, hc, hv⟩ := h
  refine ⟨n, f, ?_, hc, hv⟩
  rcases hr with hr | ⟨b, off, cap, rfl, h1, h2, hL⟩
  · exact .inl hr
  · have := hf _ _ _ rfl
    have hne : b ≠ p.block := by simp at this; omega
    refine .inr ⟨b, off, cap, rfl, h1, h2, ⟨fun i hi => ?_, hL.lo, hL.hi⟩⟩
    rw [← hL.cell i hi]
    exact World.cell?_of_block (Below.heap_setCell w p u b hne)
set_option maxHeartbeats 400000 in
theorem rcheck_ok (v : Value) (n : Nat) (f : Nat → Int) (w : World) (hR : Row w v n f) (hC : Can n f) :
    Calls Try.prog 26 #[v] w fun e w' => e = .returned (.int .i64 0) ∧ w = w' := by
  by_cases h : 0 < n
  · obtain ⟨b, off, cap, rfl, hc, hm, hL⟩ := hR.lies (by omega)
    unfold maxLen at hm
    have c := hL.cell (n - 1) (by omega)
    have z := hC.2 h
    have hz : (f (n - 1) == 0) = false := by simpa using z
    have ez : ((n : Int) - 1).toNat = n - 1 := by omega
    have hI : (0 : Int) < (n : Int) := by omega
    have HL : Hid (Lies w b off n f) := hL
    have HC : Hid (Limbs n f) := hC.1
    obtain ⟨x, hx⟩ : ∃ x, f (n - 1) = x := ⟨_, rfl⟩
    rw [hx] at c hz
    clear hR hL hC z hx
    go_enter Try.func26, Try.ntmps26
    go_wp2
    go_loop [3] (fun i => ∃ k : Nat, k ≤ n ∧ i = .int .i64 k) (fun i => n - (intOf i).toNat)
    case atStart => exact ⟨0, Nat.zero_le _, rfl⟩
    case round =>
      obtain ⟨k, hk, rfl⟩ := hrel
      by_cases hlt : k < n
      · have c1 := HL.out.cell k hlt
        have b1 := HC.out k hlt
        have hkI : (k : Int) < (n : Int) := by omega
        generalize f k = y at *
        go_wp2
        go_round
        case rel => exact ⟨k + 1, by omega, by go_num⟩
        case measure => simp [intOf]; omega
      · have e : k = n := by omega
        subst e
        go_wp2
        go_ret
        exact ⟨rfl, rfl⟩
  · obtain ⟨a, cap, rfl, hm⟩ := hR.shape
    have e : n = 0 := by omega
    subst e
    clear hR hC h
    go_enter Try.func26, Try.ntmps26
    go_wp2
    refine wp_loop_rounds 1 ?_
    rw [rounds_succ]
    go_wp2
    go_ret
    exact ⟨rfl, rfl⟩

set_option maxHeartbeats 400000 in
theorem rcheck_bad (v : Value) (n : Nat) (f : Nat → Int) (w : World) (hR : Row w v n f) (hC : ¬ Can n f) :
    Calls Try.prog 26 #[v] w fun e w' => e = .returned (.int .i64 2) ∧ w = w' := by
  have h : 0 < n := by
    by_cases h : 0 < n
    · exact h
    · exact absurd ⟨fun i hi => absurd hi (by omega), fun h' => absurd h' h⟩ hC
  obtain ⟨b, off, cap, rfl, hc, hm, hL⟩ := hR.lies (by omega)
  unfold maxLen at hm
  have HL : Hid (Lies w b off n f) := hL
  have HC : Hid (¬ Can n f) := hC
  have hI : (0 : Int) < (n : Int) := by omega
  have ez : ((n : Int) - 1).toNat = n - 1 := by omega
  clear hR hL hC
  go_enter Try.func26, Try.ntmps26
  go_wp2
  go_loop [3] (fun i => ∃ k : Nat, k ≤ n ∧ i = .int .i64 k ∧ Hid (Limbs k f)) (fun i => n - (intOf i).toNat)
  case atStart => exact ⟨0, Nat.zero_le _, rfl, fun i hi => absurd hi (by omega)⟩
  case round =>
    obtain ⟨k, hk, rfl, HK⟩ := hrel
    by_cases hlt : k < n
    · have c1 := HL.out.cell k hlt
      have l1 := HL.out.lo k
      have hkI : (k : Int) < (n : Int) := by omega
      by_cases b1 : f k < 1000000000
      · have HK2 : Hid (Limbs (k + 1) f) := fun i hi => by
          by_cases e : i = k
          · rw [e]; exact ⟨l1, b1⟩
          · exact HK.out i (by omega)
        generalize f k = y at *
        go_wp2
        go_round
        case rel => exact ⟨k + 1, by omega, by go_num, HK2⟩
        case measure => simp [intOf]; omega
      · generalize f k = y at *
        go_wp2
        go_ret
        exact ⟨rfl, rfl⟩
    · have e : k = n := by omega
      subst e
      have c := HL.out.cell (k - 1) (by omega)
      have z : f (k - 1) = 0 := by
        by_cases z : f (k - 1) = 0
        · exact z
        · exact absurd ⟨HK.out, fun _ => z⟩ HC.out
      rw [z] at c
      clear HK z
      go_wp2
      go_ret
      exact ⟨rfl, rfl⟩

set_option maxHeartbeats 400000 in
theorem rtrim_any (v : Value) (n : Nat) (f : Nat → Int) (w : World) (hR : Row w v n f) (hn : n ≤ 35184372088832) :
    Calls Try.prog 29 #[v] w fun e w' => ∃ r, e = .returned r ∧ (∃ m f', Row w' r m f' ∧ (∀ i, i < m → f' i = f i) ∧ Trims n f m) ∧ From w.heap.size r ∧ Below w.heap.size w w' := by
  by_cases h : 0 < n
  · obtain ⟨b, off, cap, rfl, hc, hm, hL⟩ := hR.lies (by omega)
    have hm' := hm
    unfold maxLen at hm
    have HL : Hid (Lies w b off n f) := hL
    clear hR hL
    go_enter Try.func29, Try.ntmps29
    go_wp2
    go_loop [3] (fun t => ∃ m : Nat, m ≤ n ∧ t = .int .i64 m ∧ Hid (∀ i, m ≤ i → i < n → f i = 0)) (fun t => (intOf t).toNat)
    case atStart => exact ⟨n, Nat.le_refl _, rfl, fun i h1 h2 => absurd h1 (by omega)⟩
    case round =>
      obtain ⟨m, hk, rfl, HZ⟩ := hrel
      by_cases hlt : 0 < m
      · have c1 := HL.out.cell (m - 1) (by omega)
        have ez : ((m : Int) - 1).toNat = m - 1 := by omega
        have hI : (0 : Int) < (m : Int) := by omega
        by_cases z : f (m - 1) = 0
        · have HZ2 : Hid (∀ i, m - 1 ≤ i → i < n → f i = 0) := fun i h1 h2 => by
            by_cases e : i = m - 1
            · rw [e]; exact z
            · exact HZ.out i (by omega) h2
          rw [z] at c1
          clear z HZ
          go_wp2
          go_round
          case rel => exact ⟨m - 1, by omega, by go_num, HZ2⟩
          case measure => simp [intOf]; omega
        · have HT : Hid (Trims n f m) := ⟨hk, HZ.out, fun _ => z⟩
          have hz : (f (m - 1) == 0) = false := by simpa using z
          generalize f (m - 1) = y at *
          clear HZ z
          have hA : Row (w.alloc (.cells #[] 46)) (.slice (some ⟨b, off, none⟩) m cap) m f := Row.alloc (.inr ⟨b, off, cap, rfl, by omega, hm', ⟨fun i hi => HL.out.cell i (by omega), HL.out.lo, HL.out.hi⟩⟩) _
          have hbl : Below w.heap.size w (w.alloc (.cells #[] 46)) := one_below w _
          have hok : (w.alloc (.cells #[] 46)).ownsRow w.heap.size 46 1 (.slice (some ⟨w.heap.size, 0, none⟩) 0 0) 0 [] := World.ownsRow_made w #[] 0 (Nat.le_refl _) (by simp [maxLen]) rfl
          go_wp2_with (at_builtin; refine wpList_append_row rfl (.tmp 18) (.tmp 21) rfl w.heap.size _ _ _ rfl hok _ m f rfl hA (by omega) (by simp) ?_)
          · intro v' w2 hown2 hgrow2
            have hb2 : Below w.heap.size w w2 := hbl.grown hgrow2 (by simp) (fun j hj => (hok.lt j hj).1)
            have hr : Row w2 v' m f := row_own HL.out.lo HL.out.hi (by simpa using hown2)
            have hfr : From w.heap.size v' := from_own hown2
            clear hA hok hbl hgrow2 hown2
            go_wp2
            go_ret
            exact ⟨_, rfl, ⟨m, f, hr, fun _ _ => rfl, HT.out⟩, hfr, hb2⟩
      · have e : m = 0 := by omega
        subst e
        have HT : Hid (Trims n f 0) := ⟨hk, HZ.out, fun h => absurd h (by omega)⟩
        clear HZ hlt
        have hA : Row (w.alloc (.cells #[] 46)) (.slice (some ⟨b, off, none⟩) 0 cap) 0 f := Row.alloc (.inl ⟨rfl, _, cap, rfl, fun h => by cases h⟩) _
        have hbl : Below w.heap.size w (w.alloc (.cells #[] 46)) := one_below w _
        have hok : (w.alloc (.cells #[] 46)).ownsRow w.heap.size 46 1 (.slice (some ⟨w.heap.size, 0, none⟩) 0 0) 0 [] := World.ownsRow_made w #[] 0 (Nat.le_refl _) (by simp [maxLen]) rfl
        go_wp2_with (at_builtin; refine wpList_append_row rfl (.tmp 18) (.tmp 21) rfl w.heap.size _ _ _ rfl hok _ 0 f rfl hA (by omega) (by simp) ?_)
        · intro v' w2 hown2 hgrow2
          have hb2 : Below w.heap.size w w2 := hbl.grown hgrow2 (by simp) (fun j hj => (hok.lt j hj).1)
          have hr : Row w2 v' 0 f := row_own HL.out.lo HL.out.hi (by simpa using hown2)
          have hfr : From w.heap.size v' := from_own hown2
          clear hA hok hbl hgrow2 hown2
          go_wp2
          go_ret
          exact ⟨_, rfl, ⟨0, f, hr, fun _ _ => rfl, HT.out⟩, hfr, hb2⟩
  · obtain ⟨a, cap, rfl, hm⟩ := hR.shape
    have e : n = 0 := by omega
    subst e
    have HT : Hid (Trims 0 f 0) := ⟨Nat.le_refl _, fun i _ h => absurd h (by omega), fun h => absurd h (by omega)⟩
    obtain ⟨f', hR', he', lo', up'⟩ := hR.bounded
    have hA : Row (w.alloc (.cells #[] 46)) (.slice a 0 cap) 0 f' := hR'.alloc _
    have hbl : Below w.heap.size w (w.alloc (.cells #[] 46)) := one_below w _
    have hok : (w.alloc (.cells #[] 46)).ownsRow w.heap.size 46 1 (.slice (some ⟨w.heap.size, 0, none⟩) 0 0) 0 [] := World.ownsRow_made w #[] 0 (Nat.le_refl _) (by simp [maxLen]) rfl
    clear hR h hR'
    go_enter Try.func29, Try.ntmps29
    go_wp2
    refine wp_loop_rounds 1 ?_
    rw [rounds_succ]
    go_wp2_with (at_builtin; refine wpList_append_row rfl (.tmp 18) (.tmp 21) rfl w.heap.size _ _ _ rfl hok _ 0 f' rfl hA (by omega) (by simp) ?_)
    · intro v' w2 hown2 hgrow2
      have hb2 : Below w.heap.size w w2 := hbl.grown hgrow2 (by simp) (fun j hj => (hok.lt j hj).1)
      have hr : Row w2 v' 0 f' := row_own lo' up' (by simpa using hown2)
      have hfr : From w.heap.size v' := from_own hown2
      clear hA hok hbl hgrow2 hown2
      go_wp2
      go_ret
      exact ⟨_, rfl, ⟨0, f', hr, fun i hi => absurd hi (by omega), HT.out⟩, hfr, hb2⟩

set_option maxHeartbeats 400000 in
theorem rcompare_len (v0 v1 : Value) (n m : Nat) (f g : Nat → Int) (w : World) (h0 : Row w v0 n f) (h1 : Row w v1 m g) (hne : n ≠ m) :
    Calls Try.prog 27 #[v0, v1] w fun e w' => e = .returned (.int .i64 (if decide (n < m) then -1 else 1)) ∧ w = w' := by
  obtain ⟨a, cap, rfl, m1⟩ := h0.shape
  obtain ⟨a', cap', rfl, m2⟩ := h1.shape
  unfold maxLen at m1 m2
  have hb0 : ((n : Int) == (m : Int)) = false := beq_eq_false_iff_ne.2 (by omega)
  have hb : ((n : Int) != (m : Int)) = true := by simp only [bne, hb0]; rfl
  clear h0 h1
  by_cases l : n < m
  · have hI : (n : Int) < (m : Int) := by omega
    have e : decide (n < m) = true := decide_eq_true l
    rw [e]
    go_enter Try.func27, Try.ntmps27
    go_wp2
    go_ret
    exact ⟨rfl, rfl⟩
  · have hI : ¬ (n : Int) < (m : Int) := by omega
    have e : decide (n < m) = false := decide_eq_false l
    rw [e]
    go_enter Try.func27, Try.ntmps27
    go_wp2
    go_ret
    exact ⟨rfl, rfl⟩

set_option maxHeartbeats 800000 in
theorem rcompare_same (v0 v1 : Value) (n : Nat) (f g : Nat → Int) (w : World) (h0 : Row w v0 n f) (h1 : Row w v1 n g) (hf : Limbs n f) (hg : Limbs n g) :
    Calls Try.prog 27 #[v0, v1] w fun e w' => e = .returned (.int .i64 (cmpI (val f n) (val g n))) ∧ ∃ q, w' = w.drewN q := by
  obtain ⟨C, hC⟩ : ∃ C, cmpI (val f n) (val g n) = C := ⟨_, rfl⟩
  rw [hC]
  have HC : Hid (cmpI (val f n) (val g n) = C) := hC
  clear hC
  by_cases h : 0 < n
  · obtain ⟨b, off, cap, rfl, hc, hm, hL⟩ := h0.lies h
    obtain ⟨b', off', cap', rfl, hc', hm', hL'⟩ := h1.lies h
    unfold maxLen at hm hm'
    have HL : Hid (Lies w b off n f) := hL
    have HL' : Hid (Lies w b' off' n g) := hL'
    have HF : Hid (Limbs n f) := hf
    have HG : Hid (Limbs n g) := hg
    clear h0 h1 hL hL' hf hg
    go_enter Try.func27, Try.ntmps27
    go_wp2
    go_loopw [5] (fun i wr => ∃ k : Nat, k ≤ n ∧ i = .int .i64 ((k : Int) - 1) ∧ Hid (∀ j, k ≤ j → j < n → f j = g j) ∧ ∃ q, wr = w.drewN q) (fun i _ => ((intOf i) + 1).toNat)
    case atStart => exact ⟨n, Nat.le_refl _, rfl, fun j h1 h2 => absurd h1 (by omega), 0, rfl⟩
    case round =>
      obtain ⟨k, hk, rfl, HE, q, rfl⟩ := hrel
      by_cases hlt : 0 < k
      · have c1 := HL.out.cell (k - 1) (by omega)
        have c2 := HL'.out.cell (k - 1) (by omega)
        have ez : ((k : Int) - 1).toNat = k - 1 := by omega
        have i0 : 0 ≤ (k : Int) - 1 := by omega
        have i1 : (k : Int) - 1 < (n : Int) := by omega
        have hE : ∀ i, k - 1 < i → i < n → f i = g i := fun i h1 h2 => HE.out i (by omega) h2
        by_cases l : f (k - 1) < g (k - 1)
        · have HV : Hid (-1 = C) := by
            have := val_less HF.out HG.out (k - 1) (by omega) l hE
            show -1 = C
            rw [← HC.out]; simp [cmpI, this]
          generalize f (k - 1) = x at *
          generalize g (k - 1) = y at *
          clear HE hE
          go_wp2_with fail
          go_quiet (fail)
          go_wp2
          go_ret
          exact ⟨ret_int HV.out, _, by rw [World.drewN_drewN]⟩
        · by_cases l2 : g (k - 1) < f (k - 1)
          · have HV : Hid (1 = C) := by
              have := val_less HG.out HF.out (k - 1) (by omega) l2 (fun i a b => (hE i a b).symm)
              show 1 = C
              rw [← HC.out]; simp [cmpI, show ¬ val f n < val g n by omega, show ¬ val f n = val g n by omega]
            have ld : decide (f (k - 1) < g (k - 1)) = false := decide_eq_false l
            generalize f (k - 1) = x at *
            generalize g (k - 1) = y at *
            clear HE hE l
            go_wp2_with fail
            go_quiet (fail)
            go_wp2_with fail
            go_quiet (fail)
            go_wp2
            go_ret
            exact ⟨ret_int HV.out, _, by rw [World.drewN_drewN, World.drewN_drewN]⟩
          · have e : f (k - 1) = g (k - 1) := by omega
            have HE2 : Hid (∀ j, k - 1 ≤ j → j < n → f j = g j) := fun j h1 h2 => by
              by_cases e1 : j = k - 1
              · rw [e1]; exact e
              · exact HE.out j (by omega) h2
            rw [← e] at c2
            generalize f (k - 1) = y at *
            clear e HE hE l l2
            go_wp2_with fail
            go_quiet (fail)
            go_wp2_with fail
            go_quiet (fail)
            go_wp2
            go_roundw
            case rel => exact ⟨k - 1, by omega, by go_num, HE2, _, rfl⟩
            case measure => simp [intOf]; omega
      · have e : k = 0 := by omega
        subst e
        have HV : Hid (0 = C) := by
          have := val_congr (fun i hi => HE.out i (by omega) hi)
          show 0 = C
          rw [← HC.out, this]; simp [cmpI]
        clear HE
        go_wp2
        go_ret
        exact ⟨ret_int HV.out, _, rfl⟩
  · obtain ⟨a, cap, rfl, hm⟩ := h0.shape
    obtain ⟨a', cap', rfl, hm'⟩ := h1.shape
    have e : n = 0 := by omega
    subst e
    have HV : Hid (0 = C) := by show 0 = C; rw [← HC.out]; rfl
    clear h0 h1 h hf hg
    go_enter Try.func27, Try.ntmps27
    go_wp2
    refine wp_loop_rounds 1 ?_
    rw [rounds_succ]
    go_wp2
    go_ret
    exact ⟨ret_int HV.out, 0, rfl⟩

theorem rcompare_any (v0 v1 : Value) (n m : Nat) (f g : Nat → Int) (w : World) (h0 : Row w v0 n f) (h1 : Row w v1 m g) (hf : Can n f) (hg : Can m g) :
    Calls Try.prog 27 #[v0, v1] w fun e w' => e = .returned (.int .i64 (cmpI (val f n) (val g m))) ∧ ∃ q, w' = w.drewN q := by
  by_cases h : n = m
  · subst h
    exact rcompare_same v0 v1 n f g w h0 h1 hf.1 hg.1
  · refine (rcompare_len v0 v1 n m f g w h0 h1 h).mono ?_
    rintro e w' ⟨rfl, rfl⟩
    refine ⟨ret_int ?_, 0, rfl⟩
    by_cases l : n < m
    · have := can_less hf.1 hg l
      simp [cmpI, this, l]
    · have := can_less hg.1 hf (by omega)
      simp [cmpI, l, show ¬ val f n < val g m by omega, show ¬ val f n = val g m by omega]


set_option maxHeartbeats 400000 in
theorem copy_any (v0 : Value) (n : Nat) (f : Nat → Int) (w : World) (h0 : Row w v0 n f) (lo : ∀ i, 0 ≤ f i) (up : ∀ i, f i < 4294967296) (hb : n ≤ 35184372088832) :
    Calls Try.prog 8 #[v0] w fun e w' => ∃ r, e = .returned r ∧ Row w' r n f ∧ Below w.heap.size w w' := by
  have hA : Row (w.alloc (.cells #[] 46)) v0 n f := h0.alloc _
  have hok : (w.alloc (.cells #[] 46)).ownsRow w.heap.size 46 1 (.slice (some ⟨w.heap.size, 0, none⟩) 0 0) 0 [] := World.ownsRow_made w #[] 0 (Nat.le_refl _) (by simp [maxLen]) rfl
  have hbl : Below w.heap.size w (w.alloc (.cells #[] 46)) := one_below w _
  clear h0
  go_enter Try.func8, Try.ntmps8
  go_wp2_with (at_builtin; refine wpList_append_row rfl (.tmp 3) (.tmp 4) rfl w.heap.size _ _ _ rfl hok _ n f rfl hA (by omega) (by simp) ?_)
  · intro v' w2 hown2 hgrow2
    have hb2 : Below w.heap.size w w2 := hbl.grown hgrow2 (by simp) (fun j hj => (hok.lt j hj).1)
    have hr : Row w2 v' n f := row_own lo up (by simpa using hown2)
    clear hA hok hbl hgrow2 hown2
    go_wp2
    go_ret
    exact ⟨_, rfl, hr, hb2⟩
/-- What ref.Trim leaves, as a number. -/
theorem rnum_of_trim {w : World} {r : Value} {N : Nat} {g : Nat → Int} {V : Int} (hb : Limbs N g) (h : ∃ m f', Row w r m f' ∧ (∀ i, i < m → f' i = g i) ∧ Trims N g m) (hV : val g N = V) : Num w r V := by
  obtain ⟨m, f', hr, he, ht⟩ := h
  obtain ⟨c1, c2⟩ := ht.can hb
  refine ⟨m, f', hr, ⟨fun i hi => by rw [he i hi]; exact c1.1 i hi, fun h => by rw [he (m - 1) (by omega)]; exact c1.2 h⟩, by rw [val_congr he, c2, hV]⟩
end Go.Proofs.Ytmhplblmabiekaa
