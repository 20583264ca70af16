/-
  What nat.restOf, bits.Len and nat.Power answer. Conditions: the numbers have at most 400 limbs.
  What ref.Check, ref.Trim, ref.compare and ref.Copy answer. Conditions: none but that the limbs lie there.
  What ref.Add and ref.sub answer. Conditions: the numbers have at most 1000 limbs.
  What ref.mul answers. Conditions: the numbers have at most 1000 limbs.
  What ref.div answers: quotient and rest, each limb by halving what may be. Conditions: the numbers have at most 400 limbs, and the divisor is not nought.
  What ref.Compare, Sub, Mul, Div and Power answer, of numbers and of what is none, and what nat's calls refuse. Conditions: the numbers have at most 400 limbs.
-/
import Derived.Test.YtfhapeinfhjihaaGreatDoorNE
import Derived.Lib.QuoteBits
namespace Go.Proofs.YtfhapeinfhjihaaGreatDoor
open Go.RowKit

theorem i64_and1 (x : Int) (h0 : 0 ≤ x) (h : x < 9223372036854775808) : bits .and .i64 x 1 = x % 2 := by
  obtain ⟨a, rfl⟩ := Int.eq_ofNat_of_zero_le h0
  show IntKind.i64.wrap ((BitVec.ofInt 64 (a : Int) &&& BitVec.ofInt 64 ((1 : Nat) : Int)).toNat : Int) = _
  have e1 : (BitVec.ofInt 64 (a : Int)).toNat = a := by simp; omega
  have e2 : (BitVec.ofInt 64 ((1 : Nat) : Int)).toNat = 1 := by decide
  rw [BitVec.toNat_and, e1, e2, Nat.and_one_is_mod]
  simp [IntKind.wrap, IntKind.signed, IntKind.bits]
  omega

end Go.Proofs.YtfhapeinfhjihaaGreatDoor

namespace Go.Proofs.YtfhapeinfhjihaaGreatDoor
open Go.RowKit

/-- A slice whose limbs lie in blocks from B on. -/
def From (B : Nat) (v : Value) : Prop := ∀ a n c, v = .slice (some a) n c → B ≤ a.block
theorem from_own {w : World} {B n : Nat} {v : Value} {xs : List Value} (h : w.ownsRow B 76 1 v n xs) : From B v := by
  intro a k c e
  rcases h.2 with ⟨rfl, _⟩ | ⟨g, cap, cur, rfl, hb, _⟩
  · simp at e
  · simp at e
    rw [← e.1]; exact hb
theorem from_nil (B : Nat) : From B (.slice none 0 0) := fun a n c e => by simp at e
theorem Num.set {w : World} {v : Value} {N : Int} {B : Nat} (h : Num w v N) (hf : From B v) (p : Addr) (hp : p.block < B) (u : Value) : Num (w.setCell p u) v N := by
  obtain ⟨n, f, hr, hc, hv⟩ := h
  refine ⟨n, f, ?_, hc, hv⟩
  rcases hr with hr | ⟨b, off, cap, rfl, h1, h2, hL⟩
  · exact .inl hr
  · have := hf _ _ _ rfl
    have hne : b ≠ p.block := by simp at this; omega
    refine .inr ⟨b, off, cap, rfl, h1, h2, ⟨fun i hi => ?_, hL.lo, hL.hi⟩⟩
    rw [← hL.cell i hi]
    exact World.cell?_of_block (Below.heap_setCell w p u b hne)
set_option maxHeartbeats 400000 in
theorem rcheck_ok (v : Value) (n : Nat) (f : Nat → Int) (w : World) (hR : Row w v n f) (hC : Can n f) :
    Calls Tryz.prog 66 #[v] w fun e w' => e = .returned (.int .i64 0) ∧ w = w' := by
  by_cases h : 0 < n
  · obtain ⟨b, off, cap, rfl, hc, hm, hL⟩ := hR.lies (by omega)
    unfold maxLen at hm
    have c := hL.cell (n - 1) (by omega)
    have z := hC.2 h
    have hz : (f (n - 1) == 0) = false := by simpa using z
    have ez : ((n : Int) - 1).toNat = n - 1 := by omega
    have hI : (0 : Int) < (n : Int) := by omega
    have HL : Hid (Lies w b off n f) := hL
    have HC : Hid (Limbs n f) := hC.1
    obtain ⟨x, hx⟩ : ∃ x, f (n - 1) = x := ⟨_, rfl⟩
    rw [hx] at c hz
    clear hR hL hC z hx
    go_enter Tryz.func66, Tryz.ntmps66
    go_wp2
    go_loop [3] (fun i => ∃ k : Nat, k ≤ n ∧ i = .int .i64 k) (fun i => n - (intOf i).toNat)
    case atStart => exact ⟨0, Nat.zero_le _, rfl⟩
    case round =>
      obtain ⟨k, hk, rfl⟩ := hrel
      by_cases hlt : k < n
      · have c1 := HL.out.cell k hlt
        have b1 := HC.out k hlt
        have hkI : (k : Int) < (n : Int) := by omega
        generalize f k = y at *
        go_wp2
        go_round
        case rel => exact ⟨k + 1, by omega, by go_num⟩
        case measure => simp [intOf]; omega
      · have e : k = n := by omega
        subst e
        go_wp2
        go_ret
        exact ⟨rfl, rfl⟩
  · obtain ⟨a, cap, rfl, hm⟩ := hR.shape
    have e : n = 0 := by omega
    subst e
    clear hR hC h
    go_enter Tryz.func66, Tryz.ntmps66
    go_wp2
    refine wp_loop_rounds 1 ?_
    rw [rounds_succ]
    go_wp2
    go_ret
    exact ⟨rfl, rfl⟩

set_option maxHeartbeats 400000 in
theorem rcheck_bad (v : Value) (n : Nat) (f : Nat → Int) (w : World) (hR : Row w v n f) (hC : ¬ Can n f) :
    Calls Tryz.prog 66 #[v] w fun e w' => e = .returned (.int .i64 2) ∧ w = w' := by
  have h : 0 < n := by
    by_cases h : 0 < n
    · exact h
    · exact absurd ⟨fun i hi => absurd hi (by omega), fun h' => absurd h' h⟩ hC
  obtain ⟨b, off, cap, rfl, hc, hm, hL⟩ := hR.lies (by omega)
  unfold maxLen at hm
  have HL : Hid (Lies w b off n f) := hL
  have HC : Hid (¬ Can n f) := hC
  have hI : (0 : Int) < (n : Int) := by omega
  have ez : ((n : Int) - 1).toNat = n - 1 := by omega
  clear hR hL hC
  go_enter Tryz.func66, Tryz.ntmps66
  go_wp2
  go_loop [3] (fun i => ∃ k : Nat, k ≤ n ∧ i = .int .i64 k ∧ Hid (Limbs k f)) (fun i => n - (intOf i).toNat)
  case atStart => exact ⟨0, Nat.zero_le _, rfl, fun i hi => absurd hi (by omega)⟩
  case round =>
    obtain ⟨k, hk, rfl, HK⟩ := hrel
    by_cases hlt : k < n
    · have c1 := HL.out.cell k hlt
      have l1 := HL.out.lo k
      have hkI : (k : Int) < (n : Int) := by omega
      by_cases b1 : f k < 1000000000
      · have HK2 : Hid (Limbs (k + 1) f) := fun i hi => by
          by_cases e : i = k
          · rw [e]; exact ⟨l1, b1⟩
          · exact HK.out i (by omega)
        generalize f k = y at *
        go_wp2
        go_round
        case rel => exact ⟨k + 1, by omega, by go_num, HK2⟩
        case measure => simp [intOf]; omega
      · generalize f k = y at *
        go_wp2
        go_ret
        exact ⟨rfl, rfl⟩
    · have e : k = n := by omega
      subst e
      have c := HL.out.cell (k - 1) (by omega)
      have z : f (k - 1) = 0 := by
        by_cases z : f (k - 1) = 0
        · exact z
        · exact absurd ⟨HK.out, fun _ => z⟩ HC.out
      rw [z] at c
      clear HK z
      go_wp2
      go_ret
      exact ⟨rfl, rfl⟩

set_option maxHeartbeats 400000 in
theorem rtrim_any (v : Value) (n : Nat) (f : Nat → Int) (w : World) (hR : Row w v n f) (hn : n ≤ 35184372088832) :
    Calls Tryz.prog 65 #[v] w fun e w' => ∃ r, e = .returned r ∧ (∃ m f', Row w' r m f' ∧ (∀ i, i < m → f' i = f i) ∧ Trims n f m) ∧ From w.heap.size r ∧ Below w.heap.size w w' := by
  by_cases h : 0 < n
  · obtain ⟨b, off, cap, rfl, hc, hm, hL⟩ := hR.lies (by omega)
    have hm' := hm
    unfold maxLen at hm
    have HL : Hid (Lies w b off n f) := hL
    clear hR hL
    go_enter Tryz.func65, Tryz.ntmps65
    go_wp2
    go_loop [3] (fun t => ∃ m : Nat, m ≤ n ∧ t = .int .i64 m ∧ Hid (∀ i, m ≤ i → i < n → f i = 0)) (fun t => (intOf t).toNat)
    case atStart => exact ⟨n, Nat.le_refl _, rfl, fun i h1 h2 => absurd h1 (by omega)⟩
    case round =>
      obtain ⟨m, hk, rfl, HZ⟩ := hrel
      by_cases hlt : 0 < m
      · have c1 := HL.out.cell (m - 1) (by omega)
        have ez : ((m : Int) - 1).toNat = m - 1 := by omega
        have hI : (0 : Int) < (m : Int) := by omega
        by_cases z : f (m - 1) = 0
        · have HZ2 : Hid (∀ i, m - 1 ≤ i → i < n → f i = 0) := fun i h1 h2 => by
            by_cases e : i = m - 1
            · rw [e]; exact z
            · exact HZ.out i (by omega) h2
          rw [z] at c1
          clear z HZ
          go_wp2
          go_round
          case rel => exact ⟨m - 1, by omega, by go_num, HZ2⟩
          case measure => simp [intOf]; omega
        · have HT : Hid (Trims n f m) := ⟨hk, HZ.out, fun _ => z⟩
          have hz : (f (m - 1) == 0) = false := by simpa using z
          generalize f (m - 1) = y at *
          clear HZ z
          have hA : Row (w.alloc (.cells #[] 76)) (.slice (some ⟨b, off, none⟩) m cap) m f := Row.alloc (.inr ⟨b, off, cap, rfl, by omega, hm', ⟨fun i hi => HL.out.cell i (by omega), HL.out.lo, HL.out.hi⟩⟩) _
          have hbl : Below w.heap.size w (w.alloc (.cells #[] 76)) := one_below w _
          have hok : (w.alloc (.cells #[] 76)).ownsRow w.heap.size 76 1 (.slice (some ⟨w.heap.size, 0, none⟩) 0 0) 0 [] := World.ownsRow_made w #[] 0 (Nat.le_refl _) (by simp [maxLen]) rfl
          go_wp2_with (at_builtin; refine wpList_append_row rfl (.tmp 18) (.tmp 21) rfl w.heap.size _ _ _ rfl hok _ m f rfl hA (by omega) (by simp) ?_)
          · intro v' w2 hown2 hgrow2
            have hb2 : Below w.heap.size w w2 := hbl.grown hgrow2 (by simp) (fun j hj => (hok.lt j hj).1)
            have hr : Row w2 v' m f := row_own HL.out.lo HL.out.hi (by simpa using hown2)
            have hfr : From w.heap.size v' := from_own hown2
            clear hA hok hbl hgrow2 hown2
            go_wp2
            go_ret
            exact ⟨_, rfl, ⟨m, f, hr, fun _ _ => rfl, HT.out⟩, hfr, hb2⟩
      · have e : m = 0 := by omega
        subst e
        have HT : Hid (Trims n f 0) := ⟨hk, HZ.out, fun h => absurd h (by omega)⟩
        clear HZ hlt
        have hA : Row (w.alloc (.cells #[] 76)) (.slice (some ⟨b, off, none⟩) 0 cap) 0 f := Row.alloc (.inl ⟨rfl, _, cap, rfl, fun h => by cases h⟩) _
        have hbl : Below w.heap.size w (w.alloc (.cells #[] 76)) := one_below w _
        have hok : (w.alloc (.cells #[] 76)).ownsRow w.heap.size 76 1 (.slice (some ⟨w.heap.size, 0, none⟩) 0 0) 0 [] := World.ownsRow_made w #[] 0 (Nat.le_refl _) (by simp [maxLen]) rfl
        go_wp2_with (at_builtin; refine wpList_append_row rfl (.tmp 18) (.tmp 21) rfl w.heap.size _ _ _ rfl hok _ 0 f rfl hA (by omega) (by simp) ?_)
        · intro v' w2 hown2 hgrow2
          have hb2 : Below w.heap.size w w2 := hbl.grown hgrow2 (by simp) (fun j hj => (hok.lt j hj).1)
          have hr : Row w2 v' 0 f := row_own HL.out.lo HL.out.hi (by simpa using hown2)
          have hfr : From w.heap.size v' := from_own hown2
          clear hA hok hbl hgrow2 hown2
          go_wp2
          go_ret
          exact ⟨_, rfl, ⟨0, f, hr, fun _ _ => rfl, HT.out⟩, hfr, hb2⟩
  · obtain ⟨a, cap, rfl, hm⟩ := hR.shape
    have e : n = 0 := by omega
    subst e
    have HT : Hid (Trims 0 f 0) := ⟨Nat.le_refl _, fun i _ h => absurd h (by omega), fun h => absurd h (by omega)⟩
    obtain ⟨f', hR', he', lo', up'⟩ := hR.bounded
    have hA : Row (w.alloc (.cells #[] 76)) (.slice a 0 cap) 0 f' := hR'.alloc _
    have hbl : Below w.heap.size w (w.alloc (.cells #[] 76)) := one_below w _
    have hok : (w.alloc (.cells #[] 76)).ownsRow w.heap.size 76 1 (.slice (some ⟨w.heap.size, 0, none⟩) 0 0) 0 [] := World.ownsRow_made w #[] 0 (Nat.le_refl _) (by simp [maxLen]) rfl
    clear hR h hR'
    go_enter Tryz.func65, Tryz.ntmps65
    go_wp2
    refine wp_loop_rounds 1 ?_
    rw [rounds_succ]
    go_wp2_with (at_builtin; refine wpList_append_row rfl (.tmp 18) (.tmp 21) rfl w.heap.size _ _ _ rfl hok _ 0 f' rfl hA (by omega) (by simp) ?_)
    · intro v' w2 hown2 hgrow2
      have hb2 : Below w.heap.size w w2 := hbl.grown hgrow2 (by simp) (fun j hj => (hok.lt j hj).1)
      have hr : Row w2 v' 0 f' := row_own lo' up' (by simpa using hown2)
      have hfr : From w.heap.size v' := from_own hown2
      clear hA hok hbl hgrow2 hown2
      go_wp2
      go_ret
      exact ⟨_, rfl, ⟨0, f', hr, fun i hi => absurd hi (by omega), HT.out⟩, hfr, hb2⟩

set_option maxHeartbeats 400000 in
theorem rcompare_len (v0 v1 : Value) (n m : Nat) (f g : Nat → Int) (w : World) (h0 : Row w v0 n f) (h1 : Row w v1 m g) (hne : n ≠ m) :
    Calls Tryz.prog 87 #[v0, v1] w fun e w' => e = .returned (.int .i64 (if decide (n < m) then -1 else 1)) ∧ w = w' := by
  obtain ⟨a, cap, rfl, m1⟩ := h0.shape
  obtain ⟨a', cap', rfl, m2⟩ := h1.shape
  unfold maxLen at m1 m2
  have hb0 : ((n : Int) == (m : Int)) = false := beq_eq_false_iff_ne.2 (by omega)
  have hb : ((n : Int) != (m : Int)) = true := by simp only [bne, hb0]; rfl
  clear h0 h1
  by_cases l : n < m
  · have hI : (n : Int) < (m : Int) := by omega
    have e : decide (n < m) = true := decide_eq_true l
    rw [e]
    go_enter Tryz.func87, Tryz.ntmps87
    go_wp2
    go_ret
    exact ⟨rfl, rfl⟩
  · have hI : ¬ (n : Int) < (m : Int) := by omega
    have e : decide (n < m) = false := decide_eq_false l
    rw [e]
    go_enter Tryz.func87, Tryz.ntmps87
    go_wp2
    go_ret
    exact ⟨rfl, rfl⟩

set_option maxHeartbeats 800000 in
theorem rcompare_same (v0 v1 : Value) (n : Nat) (f g : Nat → Int) (w : World) (h0 : Row w v0 n f) (h1 : Row w v1 n g) (hf : Limbs n f) (hg : Limbs n g) :
    Calls Tryz.prog 87 #[v0, v1] w fun e w' => e = .returned (.int .i64 (cmpI (val f n) (val g n))) ∧ ∃ q, w' = w.drewN q := by
  obtain ⟨C, hC⟩ : ∃ C, cmpI (val f n) (val g n) = C := ⟨_, rfl⟩
  rw [hC]
  have HC : Hid (cmpI (val f n) (val g n) = C) := hC
  clear hC
  by_cases h : 0 < n
  · obtain ⟨b, off, cap, rfl, hc, hm, hL⟩ := h0.lies h
    obtain ⟨b', off', cap', rfl, hc', hm', hL'⟩ := h1.lies h
    unfold maxLen at hm hm'
    have HL : Hid (Lies w b off n f) := hL
    have HL' : Hid (Lies w b' off' n g) := hL'
    have HF : Hid (Limbs n f) := hf
    have HG : Hid (Limbs n g) := hg
    clear h0 h1 hL hL' hf hg
    go_enter Tryz.func87, Tryz.ntmps87
    go_wp2
    go_loopw [5] (fun i wr => ∃ k : Nat, k ≤ n ∧ i = .int .i64 ((k : Int) - 1) ∧ Hid (∀ j, k ≤ j → j < n → f j = g j) ∧ ∃ q, wr = w.drewN q) (fun i _ => ((intOf i) + 1).toNat)
    case atStart => exact ⟨n, Nat.le_refl _, rfl, fun j h1 h2 => absurd h1 (by omega), 0, rfl⟩
    case round =>
      obtain ⟨k, hk, rfl, HE, q, rfl⟩ := hrel
      by_cases hlt : 0 < k
      · have c1 := HL.out.cell (k - 1) (by omega)
        have c2 := HL'.out.cell (k - 1) (by omega)
        have ez : ((k : Int) - 1).toNat = k - 1 := by omega
        have i0 : 0 ≤ (k : Int) - 1 := by omega
        have i1 : (k : Int) - 1 < (n : Int) := by omega
        have hE : ∀ i, k - 1 < i → i < n → f i = g i := fun i h1 h2 => HE.out i (by omega) h2
        by_cases l : f (k - 1) < g (k - 1)
        · have HV : Hid (-1 = C) := by
            have := val_less HF.out HG.out (k - 1) (by omega) l hE
            show -1 = C
            rw [← HC.out]; simp [cmpI, this]
          generalize f (k - 1) = x at *
          generalize g (k - 1) = y at *
          clear HE hE
          go_wp2_with fail
          go_quiet (fail)
          go_wp2
          go_ret
          exact ⟨ret_int HV.out, _, by rw [World.drewN_drewN]⟩
        · by_cases l2 : g (k - 1) < f (k - 1)
          · have HV : Hid (1 = C) := by
              have := val_less HG.out HF.out (k - 1) (by omega) l2 (fun i a b => (hE i a b).symm)
              show 1 = C
              rw [← HC.out]; simp [cmpI, show ¬ val f n < val g n by omega, show ¬ val f n = val g n by omega]
            have ld : decide (f (k - 1) < g (k - 1)) = false := decide_eq_false l
            generalize f (k - 1) = x at *
            generalize g (k - 1) = y at *
            clear HE hE l
            go_wp2_with fail
            go_quiet (fail)
            go_wp2_with fail
            go_quiet (fail)
            go_wp2
            go_ret
            exact ⟨ret_int HV.out, _, by rw [World.drewN_drewN, World.drewN_drewN]⟩
          · have e : f (k - 1) = g (k - 1) := by omega
            have HE2 : Hid (∀ j, k - 1 ≤ j → j < n → f j = g j) := fun j h1 h2 => by
              by_cases e1 : j = k - 1
              · rw [e1]; exact e
              · exact HE.out j (by omega) h2
            rw [← e] at c2
            generalize f (k - 1) = y at *
            clear e HE hE l l2
            go_wp2_with fail
            go_quiet (fail)
            go_wp2_with fail
            go_quiet (fail)
            go_wp2
            go_roundw
            case rel => exact ⟨k - 1, by omega, by go_num, HE2, _, rfl⟩
            case measure => simp [intOf]; omega
      · have e : k = 0 := by omega
        subst e
        have HV : Hid (0 = C) := by
          have := val_congr (fun i hi => HE.out i (by omega) hi)
          show 0 = C
          rw [← HC.out, this]; simp [cmpI]
        clear HE
        go_wp2
        go_ret
        exact ⟨ret_int HV.out, _, rfl⟩
  · obtain ⟨a, cap, rfl, hm⟩ := h0.shape
    obtain ⟨a', cap', rfl, hm'⟩ := h1.shape
    have e : n = 0 := by omega
    subst e
    have HV : Hid (0 = C) := by show 0 = C; rw [← HC.out]; rfl
    clear h0 h1 h hf hg
    go_enter Tryz.func87, Tryz.ntmps87
    go_wp2
    refine wp_loop_rounds 1 ?_
    rw [rounds_succ]
    go_wp2
    go_ret
    exact ⟨ret_int HV.out, 0, rfl⟩

theorem rcompare_any (v0 v1 : Value) (n m : Nat) (f g : Nat → Int) (w : World) (h0 : Row w v0 n f) (h1 : Row w v1 m g) (hf : Can n f) (hg : Can m g) :
    Calls Tryz.prog 87 #[v0, v1] w fun e w' => e = .returned (.int .i64 (cmpI (val f n) (val g m))) ∧ ∃ q, w' = w.drewN q := by
  by_cases h : n = m
  · subst h
    exact rcompare_same v0 v1 n f g w h0 h1 hf.1 hg.1
  · refine (rcompare_len v0 v1 n m f g w h0 h1 h).mono ?_
    rintro e w' ⟨rfl, rfl⟩
    refine ⟨ret_int ?_, 0, rfl⟩
    by_cases l : n < m
    · have := can_less hf.1 hg l
      simp [cmpI, this, l]
    · have := can_less hg.1 hf (by omega)
      simp [cmpI, l, show ¬ val f n < val g m by omega, show ¬ val f n = val g m by omega]

/-- What ref.Trim leaves, as a number. -/
theorem rnum_of_trim {w : World} {r : Value} {N : Nat} {g : Nat → Int} {V : Int} (hb : Limbs N g) (h : ∃ m f', Row w r m f' ∧ (∀ i, i < m → f' i = g i) ∧ Trims N g m) (hV : val g N = V) : Num w r V := by
  obtain ⟨m, f', hr, he, ht⟩ := h
  obtain ⟨c1, c2⟩ := ht.can hb
  refine ⟨m, f', hr, ⟨fun i hi => by rw [he i hi]; exact c1.1 i hi, fun h => by rw [he (m - 1) (by omega)]; exact c1.2 h⟩, by rw [val_congr he, c2, hV]⟩
end Go.Proofs.YtfhapeinfhjihaaGreatDoor

namespace Go.Proofs.YtfhapeinfhjihaaGreatDoor
open Go.RowKit

def dg (d nx : Int → Int → Int → Int) (F G : Nat → Int) : Nat → Int := fun i => d (F i) (G i) (carr nx F G i)
theorem dg_all {d nx : Int → Int → Int → Int} (hS : Steps d nx) {F G : Nat → Int} (hF : All9 F) (hG : All9 G) : All9 (dg d nx F G) := by
  intro i
  have := carr_bd hS hF hG i
  exact ⟨hS.dlo _ _ _ (hF i).1 (hF i).2 (hG i).1 (hG i).2 this.1 this.2, hS.dhi _ _ _ (hF i).1 (hF i).2 (hG i).1 (hG i).2 this.1 this.2⟩
theorem dg_outs (d nx : Int → Int → Int → Int) (F G : Nat → Int) (K : Nat) : val (dg d nx F G) K = val (outs d nx F G K) K := val_congr (fun i hi => by simp [dg, outs, hi])
theorem vals_succ (k : Nat) (g : Nat → Int) : vals k g ++ [.int .u32 (g k)] = vals (k + 1) g := by
  rw [vals_snoc]
  exact vals_congr (fun i hi => by
    unfold upd
    by_cases e : i = k
    · subst e; simp
    · simp [e])
/-- What stands at the head of each round. -/
def RRel (d nx : Int → Int → Int → Int) (F G : Nat → Int) (K : Nat) (kd : IntKind) (w : World) (v cy i : Value) (wr : World) : Prop :=
  ∃ k : Nat, k ≤ K ∧ i = .int .i64 k ∧ cy = .int kd (carr nx F G k) ∧ wr.ownsRow w.heap.size 76 1 v k (vals k (dg d nx F G)) ∧ Below w.heap.size w wr
theorem RRel_next {d nx : Int → Int → Int → Int} {F G : Nat → Int} {K : Nat} {kd : IntKind} {w w2 w3 : World} {v v' : Value} {o : Obj} {k : Nat} {D c' : Int} (hk : k < K) (hD : D = dg d nx F G k) (hc : c' = carr nx F G (k + 1))
    (hown2 : w2.ownsRow w.heap.size 76 1 v k (vals k (dg d nx F G))) (hb : Below w.heap.size w w2)
    (hown : w3.ownsRow w.heap.size 76 1 v' (k + 1) (vals k (dg d nx F G) ++ [.int .u32 D])) (hgrow : (w2.alloc o).grownBy w3 v.ownBlock) : RRel d nx F G K kd w v' (.int kd c') (.int .i64 ((k : Int) + 1)) w3 := by
  subst hD hc
  rw [vals_succ] at hown
  refine ⟨k + 1, by omega, by simp, rfl, hown, ?_⟩
  exact (hb.alloc hb.size o).grown hgrow (by simp; have := hb.size; omega) (fun j hj => (hown2.lt j hj).1)

set_option maxRecDepth 100000 in
set_option maxHeartbeats 3200000 in
theorem rsub_num (v0 v1 : Value) (A B : Int) (n m : Nat) (f g : Nat → Int) (w : World) (h0 : Row w v0 n f) (h1 : Row w v1 m g) (hf : Can n f) (hg : Can m g) (eA : val f n = A) (eB : val g m = B) (hn : n ≤ 1000) (hle : B ≤ A) :
    Calls Tryz.prog 88 #[v0, v1] w fun e w' => ∃ r, e = .returned r ∧ (Num w' r (A - B) ∧ From w.heap.size r) ∧ Below w.heap.size w w' := by
  obtain ⟨i0, hi, hz0, hz1, hz2⟩ := info_parts info46
  have hmn : m ≤ n := by
    by_cases z : m ≤ n
    · exact z
    · have := can_less hf.1 hg (by omega); omega
  have F9 := limb_all hf.1
  have G9 := limb_all hg.1
  have HV : Hid (val (dg dD nD (limb n f) (limb m g)) n = A - B) := by
    show val _ n = _
    rw [dg_outs, dif_fits hf.1 hg.1 hmn (by omega), eA, eB]
  obtain ⟨a, cap, e0, _⟩ := h0.shape
  obtain ⟨a', cap', e1, _⟩ := h1.shape
  have H0 : Hid (Row w v0 n f) := h0
  have H1 : Hid (Row w v1 m g) := h1
  clear h0 h1 hf hg eA eB
  subst e0 e1
  go_enter Tryz.func88, Tryz.ntmps88
  go_wp2
  go_loopw [5, 6, 7] (fun v cy i wr => RRel dD nD (limb n f) (limb m g) n .u32 w v cy i wr) (fun _ _ i _ => n - (intOf i).toNat)
  case atStart => exact ⟨0, Nat.zero_le _, rfl, rfl, World.ownsRow_nil _ _ _ _, Below.refl _ _⟩
  case round =>
    obtain ⟨k, hk, rfl, rfl, hown, hb⟩ := hrel
    have hz := hb.size
    have bc := carr_bd stepsD F9 G9 k
    by_cases hlt : k < n
    · have hIk : (k : Int) < (n : Int) := by omega
      have hNc : carr nD (limb n f) (limb m g) (k + 1) = nD (limb n f k) (limb m g k) (carr nD (limb n f) (limb m g) k) := rfl
      have hDg : dg dD nD (limb n f) (limb m g) k = dD (limb n f k) (limb m g k) (carr nD (limb n f) (limb m g) k) := rfl
      have bF := F9 k
      have bG := G9 k
      obtain ⟨b, off, cp, eS, _, _, hL⟩ := (H0.out.below hb).lies (by omega)
      obtain ⟨rfl, rfl⟩ : a = some ⟨b, off, none⟩ ∧ cap = cp := by simpa using eS
      have cx := hL.cell k (by omega)
      have ex : limb n f k = f k := by simp [limb, show k < n by omega]
      rw [ex] at hNc hDg bF
      generalize f k = x at *
      obtain ⟨c, hc⟩ : ∃ c, carr nD (limb n f) (limb m g) k = c := ⟨_, rfl⟩
      rw [hc] at hNc hDg bc ⊢
      by_cases ho : k < m
      · have hIo : (k : Int) < (m : Int) := by omega
        obtain ⟨b', off', cp', eS', _, _, hL'⟩ := (H1.out.below hb).lies (by omega)
        obtain ⟨rfl, rfl⟩ : a' = some ⟨b', off', none⟩ ∧ cap' = cp' := by simpa using eS'
        have cy := hL'.cell k (by omega)
        have ey : limb m g k = g k := by simp [limb, show k < m by omega]
        rw [ey] at hNc hDg bG
        generalize g k = y at *
        by_cases hge : c + y ≤ x
        · have HN := fun v' w3 o h1 h2 => RRel_next (d := dD) (nx := nD) (F := limb n f) (G := limb m g) (K := n) (kd := .u32) (w := w) (w2 := wr) (w3 := w3) (v := u5) (v' := v') (o := o) (k := k) (D := x - (c + y)) (c' := 0) hlt (by rw [hDg]; unfold dD; omega) (by rw [hNc]; unfold nD; omega) hown hb h1 h2
          clear hNc hDg hc
          go_wp2_with (at_builtin; refine wpList_append_own _ rfl _ _ 45 rfl w.heap.size 76 i0 (.int .u32 0) 1 4 Tryz.underlying45 hi hz0 hz1 hz2 rfl (by decide) _ _ _ rfl (hown.alloc _) ⟨wr.heap.size, 0, none⟩ 1 1 [.int .u32 (x - (c + y))] rfl rfl (cell_one_new _ _) (by intro u hu; simp at hu; subst hu; rfl) (by unfold maxLen; omega) (by omega) (by simp; omega) ?_)
          intro v' w3 hown3 hgrow3 _
          have HR : Hid (RRel dD nD (limb n f) (limb m g) n .u32 w v' (.int .u32 (0)) (.int .i64 ((k : Int) + 1)) w3) := HN v' w3 _ hown3 hgrow3
          clear HN hown3 hgrow3 hown
          go_wp2
          go_roundw
          case rel => exact HR.out
          case measure => simp [intOf]; omega
        · have HN := fun v' w3 o h1 h2 => RRel_next (d := dD) (nx := nD) (F := limb n f) (G := limb m g) (K := n) (kd := .u32) (w := w) (w2 := wr) (w3 := w3) (v := u5) (v' := v') (o := o) (k := k) (D := x + 1000000000 - (c + y)) (c' := 1) hlt (by rw [hDg]; unfold dD; omega) (by rw [hNc]; unfold nD; omega) hown hb h1 h2
          clear hNc hDg hc
          go_wp2_with (at_builtin; refine wpList_append_own _ rfl _ _ 45 rfl w.heap.size 76 i0 (.int .u32 0) 1 4 Tryz.underlying45 hi hz0 hz1 hz2 rfl (by decide) _ _ _ rfl (hown.alloc _) ⟨wr.heap.size, 0, none⟩ 1 1 [.int .u32 (x + 1000000000 - (c + y))] rfl rfl (cell_one_new _ _) (by intro u hu; simp at hu; subst hu; rfl) (by unfold maxLen; omega) (by omega) (by simp; omega) ?_)
          intro v' w3 hown3 hgrow3 _
          have HR : Hid (RRel dD nD (limb n f) (limb m g) n .u32 w v' (.int .u32 (1)) (.int .i64 ((k : Int) + 1)) w3) := HN v' w3 _ hown3 hgrow3
          clear HN hown3 hgrow3 hown
          go_wp2
          go_roundw
          case rel => exact HR.out
          case measure => simp [intOf]; omega
      · have hIo : ¬ (k : Int) < (m : Int) := by omega
        have ey : limb m g k = 0 := limb_z m g k (by omega)
        rw [ey] at hNc hDg
        by_cases hge : c ≤ x
        · have HN := fun v' w3 o h1 h2 => RRel_next (d := dD) (nx := nD) (F := limb n f) (G := limb m g) (K := n) (kd := .u32) (w := w) (w2 := wr) (w3 := w3) (v := u5) (v' := v') (o := o) (k := k) (D := x - (c)) (c' := 0) hlt (by rw [hDg]; unfold dD; omega) (by rw [hNc]; unfold nD; omega) hown hb h1 h2
          clear hNc hDg hc
          go_wp2_with (at_builtin; refine wpList_append_own _ rfl _ _ 45 rfl w.heap.size 76 i0 (.int .u32 0) 1 4 Tryz.underlying45 hi hz0 hz1 hz2 rfl (by decide) _ _ _ rfl (hown.alloc _) ⟨wr.heap.size, 0, none⟩ 1 1 [.int .u32 (x - (c))] rfl rfl (cell_one_new _ _) (by intro u hu; simp at hu; subst hu; rfl) (by unfold maxLen; omega) (by omega) (by simp; omega) ?_)
          intro v' w3 hown3 hgrow3 _
          have HR : Hid (RRel dD nD (limb n f) (limb m g) n .u32 w v' (.int .u32 (0)) (.int .i64 ((k : Int) + 1)) w3) := HN v' w3 _ hown3 hgrow3
          clear HN hown3 hgrow3 hown
          go_wp2
          go_roundw
          case rel => exact HR.out
          case measure => simp [intOf]; omega
        · have HN := fun v' w3 o h1 h2 => RRel_next (d := dD) (nx := nD) (F := limb n f) (G := limb m g) (K := n) (kd := .u32) (w := w) (w2 := wr) (w3 := w3) (v := u5) (v' := v') (o := o) (k := k) (D := x + 1000000000 - (c)) (c' := 1) hlt (by rw [hDg]; unfold dD; omega) (by rw [hNc]; unfold nD; omega) hown hb h1 h2
          clear hNc hDg hc
          go_wp2_with (at_builtin; refine wpList_append_own _ rfl _ _ 45 rfl w.heap.size 76 i0 (.int .u32 0) 1 4 Tryz.underlying45 hi hz0 hz1 hz2 rfl (by decide) _ _ _ rfl (hown.alloc _) ⟨wr.heap.size, 0, none⟩ 1 1 [.int .u32 (x + 1000000000 - (c))] rfl rfl (cell_one_new _ _) (by intro u hu; simp at hu; subst hu; rfl) (by unfold maxLen; omega) (by omega) (by simp; omega) ?_)
          intro v' w3 hown3 hgrow3 _
          have HR : Hid (RRel dD nD (limb n f) (limb m g) n .u32 w v' (.int .u32 (1)) (.int .i64 ((k : Int) + 1)) w3) := HN v' w3 _ hown3 hgrow3
          clear HN hown3 hgrow3 hown
          go_wp2
          go_roundw
          case rel => exact HR.out
          case measure => simp [intOf]; omega
    · have e : k = n := by omega
      subst e
      have U9 := dg_all stepsD F9 G9
      have ht := rtrim_any u5 k _ wr (row_own (fun i => (U9 i).1) (fun i => by have := (U9 i).2; omega) hown) (by omega)
      have U9' : Limbs k (dg dD nD (limb k f) (limb m g)) := fun i _ => U9 i
      clear hown U9
      generalize carr nD (limb k f) (limb m g) k = c at *
      go_wp2_with fail
      refine ht.mono ?_
      rintro e w4 ⟨r, rfl, hr, fr, b4⟩
      clear ht
      go_wp2
      go_ret
      exact ⟨_, rfl, ⟨rnum_of_trim U9' hr HV.out, fun a n c e => Nat.le_trans hz (fr a n c e)⟩, hb.trans (b4.mono hz)⟩
end Go.Proofs.YtfhapeinfhjihaaGreatDoor

namespace Go.Proofs.YtfhapeinfhjihaaGreatDoor
open Go.RowKit

theorem val_put (g : Nat → Int) (n t : Nat) (q : Int) (ht : t < n) : val (upd g t q) n = val g n + (q - g t) * pw t := by
  induction n with
  | zero => omega
  | succ n ih =>
    rw [val_succ, val_succ]
    by_cases e : t = n
    · subst e
      rw [val_congr (f := upd g t q) (g := g) (fun i hi => by simp [upd, show ¬ i = t by omega])]
      simp only [upd, if_true]
      rw [Int.sub_mul]; omega
    · rw [ih (by omega)]
      simp only [upd, show ¬ n = t by omega, if_false]
      omega
theorem zero_above {h : Nat → Int} (h9 : All9 h) (N p : Nat) (hv : val h N < pw p) : ∀ j, p ≤ j → j < N → h j = 0 := by
  intro j hp hj
  obtain ⟨r, rfl⟩ : ∃ r, N = j + 1 + r := ⟨N - (j + 1), by omega⟩
  rw [val_split, val_succ] at hv
  have a1 := val_nonneg (all_limbs h9 j)
  have a2 : 0 ≤ pw (j + 1) * val (sh h (j + 1)) r := Int.mul_nonneg (by have := pw_pos (j + 1); omega) (val_nonneg (sh_limbs h9 _ _))
  have a3 := (h9 j).1
  have a4 := pw_mono hp
  by_cases c : h j = 0
  · exact c
  · have : 1 * pw j ≤ h j * pw j := Int.mul_le_mul_of_nonneg_right (by omega) (by have := pw_pos j; omega)
    omega
/-- Behind the first i rows. -/
def MOut (w wr : World) (N i : Nat) (f : Nat → Int) (V : Int) : Prop := ∃ h, Own wr w.heap.size w.heap.size N h ∧ All9 h ∧ val h N = val f i * V ∧ Below w.heap.size w wr
/-- In the middle of a row. -/
def MIn (w wr : World) (N i k : Nat) (G h : Nat → Int) (x c : Int) : Prop :=
  ∃ h', Own wr w.heap.size w.heap.size N h' ∧ All9 h' ∧ (∀ j, i + k ≤ j → h' j = h j) ∧ val h' N + c * pw (i + k) = val h N + x * val G k * pw i ∧ Below w.heap.size w wr
theorem min_next (w wr : World) (N i k q : Nat) (G h h' : Nat → Int) (x c z y P : Int) (hk : i + k < N) (o : Own wr w.heap.size w.heap.size N h') (h9 : All9 h') (hs : ∀ j, i + k ≤ j → h' j = h j) (hv : val h' N + c * pw (i + k) = val h N + x * val G k * pw i) (hb : Below w.heap.size w wr)
    (hz : h' (i + k) = z) (hP : x * y = P) (hG : G k = y) : MIn w ((wr.drewN q).setCell ⟨w.heap.size, i + k, none⟩ (.int .u32 ((c + z + P) % 1000000000))) N i (k + 1) G h x ((c + z + P) / 1000000000) := by
  have o2 : Own (wr.drewN q) w.heap.size w.heap.size N h' := o
  refine ⟨upd h' (i + k) ((c + z + P) % 1000000000), o2.stored _ _, upd_all h9 _ _ (by omega) (by omega), fun j hj => ?_, ?_, (below_drewN hb q).setCell (Nat.le_refl _) _⟩
  · rw [show upd h' (i + k) ((c + z + P) % 1000000000) j = h' j by simp [upd, show ¬ j = i + k by omega]]; exact hs j (by omega)
  · rw [val_put h' N (i + k) _ hk, hz, val_succ, hG, Int.mul_add, Int.add_mul, ← Int.mul_assoc x y, hP, ← Nat.add_assoc, pw_succ]
    have e1 := step_mul ((c + z + P) % 1000000000) ((c + z + P) / 1000000000) (c + z + P) (pw (i + k)) (by omega)
    have e2 : P * pw k * pw i = P * pw (i + k) := by rw [pw_add, Int.mul_assoc, Int.mul_comm (pw k)]
    rw [e2, Int.sub_mul]
    rw [Int.add_mul, Int.add_mul] at e1
    omega

set_option maxRecDepth 100000 in
set_option maxHeartbeats 3200000 in
theorem rmul_any (v0 v1 : Value) (n m : Nat) (f g : Nat → Int) (w : World) (h0 : Row w v0 n f) (h1 : Row w v1 m g) (hf : Limbs n f) (hg : Limbs m g) (hn : n ≤ 1000) (hm : m ≤ 1000) :
    Calls Tryz.prog 68 #[v0, v1] w fun e w' => ∃ r, e = .returned r ∧ Num w' r (val f n * val g m) ∧ Below w.heap.size w w' := by
  obtain ⟨V, hV⟩ : ∃ V, val g m = V := ⟨_, rfl⟩
  have V0 : 0 ≤ V := by rw [← hV]; exact val_nonneg hg
  have V1 : V < pw m := by rw [← hV]; exact val_lt hg
  have HVG : Hid (∀ k, m ≤ k → val (limb m g) k = V) := fun k hk => by rw [limb_val hk, hV]
  rw [hV]
  have hmk := make_row w (n + m + 1) (by omega)
  rw [show ((n + m + 1 : Nat) : Int) = (n : Int) + (m : Int) + 1 from by omega] at hmk
  have HS : Hid (MOut w (w.alloc (.cells (madeCells #[.int .u32 0] (n + m + 1)) 76)) (n + m + 1) 0 f V) := ⟨_, make_own w w.heap.size (n + m + 1) (Nat.le_refl _) (by unfold maxLen; omega), fun _ => (by decide : (0 : Int) ≤ 0 ∧ (0 : Int) < 1000000000), by rw [val_null, val_zero]; simp, one_below w _⟩
  obtain ⟨a, cap, e0, _⟩ := h0.shape
  obtain ⟨a', cap', e1, _⟩ := h1.shape
  have H0 : Hid (Row w v0 n f) := h0
  have H1 : Hid (Row w v1 m g) := h1
  have HF : Hid (Limbs n f) := hf
  have HG : Hid (Limbs m g) := hg
  clear h0 h1 hf hg hV
  subst e0 e1
  go_enter Tryz.func68, Tryz.ntmps68
  go_wp2
  clear hmk
  go_loopw [6] (fun t wr => ∃ i : Nat, i ≤ n ∧ t = .int .i64 i ∧ Hid (MOut w wr (n + m + 1) i f V)) (fun t _ => n - (intOf t).toNat)
  case atStart => exact ⟨0, Nat.zero_le _, rfl, HS.out⟩
  case round =>
    obtain ⟨i, hin, rfl, HM⟩ := hrel
    by_cases hlt : i < n
    · have hIi : (i : Int) < (n : Int) := by omega
      obtain ⟨h, oh, h9, hvh, hb⟩ := HM.out
      have hzero : h (i + m) = 0 := by
        refine zero_above h9 (n + m + 1) (i + m) ?_ (i + m) (Nat.le_refl _) (by omega)
        rw [hvh]
        exact mul_pw (val_nonneg (HF.out.le (by omega))) (val_lt (HF.out.le (by omega))) V1
      have bx := HF.out i hlt
      have HI0 : Hid (MIn w wr (n + m + 1) i 0 (limb m g) h (f i) 0) := ⟨h, oh, h9, fun _ _ => rfl, by simp [val_zero], hb⟩
      have HVH : Hid (val h (n + m + 1) = val f i * V) := hvh
      have HVS : Hid (val f (i + 1) = val f i + f i * pw i) := rfl
      have HCX : Hid (∀ w2, Below w.heap.size w w2 → ∃ b off, a = some ⟨b, off, none⟩ ∧ w2.cell? ⟨b, off + i, none⟩ = some (.int .u32 (f i))) := fun w2 hb2 => by
        obtain ⟨b, off, cp, eS, _, _, hL⟩ := (H0.out.below hb2).lies (by omega)
        obtain ⟨rfl, rfl⟩ : a = some ⟨b, off, none⟩ ∧ cap = cp := by simpa using eS
        exact ⟨b, off, rfl, hL.cell i hlt⟩
      obtain ⟨x, hx⟩ : ∃ x, f i = x := ⟨_, rfl⟩
      rw [hx] at bx HI0 HVS HCX
      clear HM oh h9 hvh hb hx
      go_wp2
      go_loopw [7, 8] (fun cy t wrI => ∃ (k : Nat) (c : Int), k ≤ m + 1 ∧ cy = .int .u64 c ∧ t = .int .i64 k ∧ 0 ≤ c ∧ c < 1000000000 ∧ (k = m + 1 → c = 0) ∧ Hid (MIn w wrI (n + m + 1) i k (limb m g) h x c)) (fun _ t _ => m + 1 - (intOf t).toNat)
      case atStart => exact ⟨0, 0, Nat.zero_le _, rfl, rfl, by omega, by omega, fun _ => rfl, HI0.out⟩
      case round =>
        obtain ⟨k, c, hk, rfl, rfl, c0, c1, hkc, HI⟩ := hrel
        by_cases hkm : k < m
        · have hIk : (k : Int) < (m : Int) := by omega
          obtain ⟨h', o, h9, hs, hv, hb⟩ := HI.out
          have cz := o.cell (i + k) (by omega)
          have fz := o.free (i + k)
          have bz := h9 (i + k)
          obtain ⟨b, off, rfl, cx⟩ := HCX.out _ hb
          obtain ⟨b', off', cp', eS', _, _, hL'⟩ := (H1.out.below hb).lies (by omega)
          obtain ⟨rfl, rfl⟩ : a' = some ⟨b', off', none⟩ ∧ cap' = cp' := by simpa using eS'
          have cy := hL'.cell k hkm
          have bg := HG.out k hkm
          have ey : limb m g k = g k := by simp [limb, hkm]
          have bP := mul9 x (g k) bx.1 bx.2 bg.1 bg.2
          obtain ⟨P, hP⟩ : ∃ P, x * g k = P := ⟨_, rfl⟩
          obtain ⟨z, hz⟩ : ∃ z, h' (i + k) = z := ⟨_, rfl⟩
          rw [hP] at bP
          rw [hz] at bz cz
          have HN : Hid (∀ q, MIn w ((wr.drewN q).setCell ⟨w.heap.size, i + k, none⟩ (.int .u32 ((c + z + P) % 1000000000))) (n + m + 1) i (k + 1) (limb m g) h x ((c + z + P) / 1000000000)) := fun q =>
            min_next w wr (n + m + 1) i k q (limb m g) h h' x c z (g k) P (by omega) o h9 hs hv hb hz hP ey
          clear HI o h9 hs hv hb hL' ey hz hkc
          generalize g k = y at *
          have iik : ((i : Int) + (k : Int)).toNat = i + k := by omega
          have iil : (i : Int) + (k : Int) < (n : Int) + (m : Int) + 1 := by omega
          go_wp2_with fail
          go_quiet (fail)
          go_wp2
          go_roundw
          case rel => exact ⟨k + 1, _, by omega, rfl, by go_num, by omega, by omega, fun h => absurd h (by omega), HN.out _⟩
          case measure => simp [intOf]; omega
        · have hIk : ¬ (k : Int) < (m : Int) := by omega
          by_cases hc : 0 < c
          · have ek : k = m := by
              by_cases z : k = m + 1
              · have := hkc z; omega
              · omega
            subst ek
            obtain ⟨h', o, h9, hs, hv, hb⟩ := HI.out
            have cz := o.cell (i + k) (by omega)
            have fz := o.free (i + k)
            have hz : h' (i + k) = 0 := by rw [hs (i + k) (Nat.le_refl _)]; exact hzero
            rw [hz] at cz
            have ey : limb k g k = 0 := limb_z k g k (Nat.le_refl _)
            have HN0 := min_next w wr (n + k + 1) i k 0 (limb k g) h h' x c 0 0 0 (by omega) o h9 hs hv hb hz (by simp) ey
            rw [show (c + 0 + 0) % 1000000000 = c by omega, show (c + 0 + 0) / 1000000000 = 0 by omega] at HN0
            have HN : Hid (MIn w (wr.setCell ⟨w.heap.size, i + k, none⟩ (.int .u32 c)) (n + k + 1) i (k + 1) (limb k g) h x 0) := HN0
            have cm : c % 1000000000 = c := by omega
            have cd : c / 1000000000 = 0 := by omega
            have iik : ((i : Int) + (k : Int)).toNat = i + k := by omega
            have iil : (i : Int) + (k : Int) < (n : Int) + (k : Int) + 1 := by omega
            clear HI o h9 hs hv hb hz HN0 ey hkc
            go_wp2
            go_roundw
            case rel => exact ⟨k + 1, 0, by omega, by rw [cd], by go_num, by omega, by omega, fun _ => rfl, HN.out⟩
            case measure => simp [intOf] <;> omega
          · have ec : c = 0 := by omega
            subst ec
            have HR : Hid (MOut w wr (n + m + 1) (i + 1) f V) := by
              obtain ⟨h', o, h9, hs, hv, hb⟩ := HI.out
              refine ⟨h', o, h9, ?_, hb⟩
              rw [HVG.out k (by omega), HVH.out, Int.zero_mul, Int.add_zero] at hv
              rw [hv, HVS.out, Int.add_mul, Int.mul_right_comm x V]
            clear HI hkc
            go_wp2
            go_roundw
            case rel => exact ⟨i + 1, by omega, by go_num, HR.out⟩
            case measure => simp [intOf]; omega
    · have e : i = n := by omega
      subst e
      obtain ⟨h, o, h9, hv, hb⟩ := HM.out
      have ht := rtrim_any _ (i + m + 1) h wr (o.row (fun j => (h9 j).1) (fun j => by have := (h9 j).2; omega) (by unfold maxLen; omega)) (by omega)
      have HE : Hid (∀ r w2, (∃ m' f', Row w2 r m' f' ∧ (∀ j, j < m' → f' j = h j) ∧ Trims (i + m + 1) h m') → Num w2 r (val f i * V)) := fun r w2 k => rnum_of_trim (fun j _ => h9 j) k hv
      clear HM o h9 hv
      go_wp2_with fail
      refine ht.mono ?_
      rintro e w4 ⟨r, rfl, hr, _, b4⟩
      clear ht
      go_wp2
      go_ret
      exact ⟨_, rfl, HE.out _ _ hr, hb.trans (b4.mono hb.size)⟩
theorem rmul_num (v0 v1 : Value) (A B : Int) (w : World) (h0 : Num w v0 A) (h1 : Num w v1 B) (hA : A < pw 1000) (hB : B < pw 1000) :
    Calls Tryz.prog 68 #[v0, v1] w fun e w' => ∃ r, e = .returned r ∧ Num w' r (A * B) ∧ Below w.heap.size w w' := by
  obtain ⟨n, f, r0, c0, e0⟩ := h0
  obtain ⟨m, g, r1, c1, e1⟩ := h1
  have := can_le c0 (k := 1000) (by rw [e0]; exact hA)
  have := can_le c1 (k := 1000) (by rw [e1]; exact hB)
  have := rmul_any v0 v1 n m f g w r0 r1 c0.1 c1.1 (by omega) (by omega)
  rw [e0, e1] at this
  exact this
end Go.Proofs.YtfhapeinfhjihaaGreatDoor

namespace Go.Proofs.YtfhapeinfhjihaaGreatDoor
open Go.RowKit

theorem one_pw9 : pw 1000 > 1000000000 := by
  have h1 := pw_mono (show 2 ≤ 1000 by omega)
  have h2 : pw 2 = 1000000000000000000 := by decide
  omega
theorem rsub_n (v0 v1 : Value) (A B : Int) (w : World) (h0 : Num w v0 A) (h1 : Num w v1 B) (hA : A < pw 1000) (hle : B ≤ A) :
    Calls Tryz.prog 88 #[v0, v1] w fun e w' => ∃ r, e = .returned r ∧ (Num w' r (A - B) ∧ From w.heap.size r) ∧ Below w.heap.size w w' := by
  obtain ⟨n, f, r0, c0, e0⟩ := h0
  obtain ⟨m, g, r1, c1, e1⟩ := h1
  have := can_le c0 (k := 1000) (by rw [e0]; exact hA)
  exact rsub_num v0 v1 A B n m f g w r0 r1 c0 c1 e0 e1 (by omega) hle
theorem rcompare_num (v0 v1 : Value) (A B : Int) (w : World) (h0 : Num w v0 A) (h1 : Num w v1 B) :
    Calls Tryz.prog 87 #[v0, v1] w fun e w' => e = .returned (.int .i64 (cmpI A B)) ∧ ∃ q, w' = w.drewN q := by
  obtain ⟨n, f, r0, c0, e0⟩ := h0
  obtain ⟨m, g, r1, c1, e1⟩ := h1
  have := rcompare_any v0 v1 n m f g w r0 r1 c0 c1
  rw [e0, e1] at this
  exact this
theorem Own.below {w w' : World} {B g N B' : Nat} {f : Nat → Int} (h : Own w B g N f) (hb : Below B' w w') (hg : g < B') : Own w' B g N f := by
  refine ⟨h.1, ?_⟩
  rcases h.2 with hn | ⟨g', cap, cur, e, hB, hh, rest⟩
  · exact .inl hn
  · refine .inr ⟨g', cap, cur, e, hB, ?_, rest⟩
    obtain rfl : g = g' := by simp at e; exact e.1
    rw [hb.block g hg]; exact hh
/-- One limb, cut. -/
theorem trim_limb (w : World) (x : Int) (x0 : 0 ≤ x) (x1 : x < 1000000000) :
    Calls Tryz.prog 65 #[.slice (some ⟨w.heap.size, 0, none⟩) 1 1] (w.alloc (.cells #[.int .u32 x] 76)) fun e w' => ∃ r, e = .returned r ∧ Num w' r x ∧ Below w.heap.size w w' := by
  refine (rtrim_any _ 1 _ _ (num_one w x x0 x1) (by omega)).mono ?_
  rintro e w' ⟨r, rfl, hr, _, hb⟩
  exact ⟨r, rfl, rnum_of_trim (fun _ _ => ⟨x0, x1⟩) hr (val_one x), below_from_alloc hb⟩
theorem cmpI_le (a b : Int) : decide (cmpI a b ≤ 0) = decide (a ≤ b) := by
  unfold cmpI
  by_cases h : a < b
  · simp [h, show a ≤ b by omega]
  · by_cases e : a = b
    · simp [e]
    · simp [h, e, show ¬ a ≤ b by omega]
/-- A limb ahead of a number. -/
def cons9 (x : Int) (f : Nat → Int) : Nat → Int := fun i => if i = 0 then x else f (i - 1)
theorem vals_cons (x : Int) (n : Nat) (f : Nat → Int) : [Value.int .u32 x] ++ vals n f = vals (1 + n) (cons9 x f) := by
  apply List.ext_getElem?
  intro i
  by_cases h0 : i = 0
  · subst h0
    rw [vals_get _ _ _ (by omega)]; simp [cons9]
  · obtain ⟨j, rfl⟩ : ∃ j, i = j + 1 := ⟨i - 1, by omega⟩
    by_cases h : j < n
    · rw [vals_get _ _ _ (by omega)]
      simp only [List.singleton_append, List.getElem?_cons_succ, vals_get n f j h]
      simp [cons9]
    · rw [List.getElem?_eq_none (by simp [vals_length]; omega), List.getElem?_eq_none (by rw [vals_length]; omega)]
theorem val_cons (x : Int) (n : Nat) (f : Nat → Int) : val (cons9 x f) (1 + n) = x + 1000000000 * val f n := by
  have h := val_sh_succ (cons9 x f) 0 n
  have e0 : sh (cons9 x f) 0 = cons9 x f := by funext i; show cons9 x f (0 + i) = cons9 x f i; rw [Nat.zero_add]
  have e1 : sh (cons9 x f) (0 + 1) = f := by funext i; show cons9 x f (1 + i) = f i; simp [cons9]
  rw [e0, e1] at h
  rw [Nat.add_comm, h]
  simp [cons9]
/-- What stands at the head of each round. -/
def RdRel (w wr : World) (gq n j : Nat) (f : Nat → Int) (V : Int) (rv : Value) : Prop :=
  ∃ qf r, Own wr w.heap.size gq n qf ∧ All9 qf ∧ (∀ i, i < j → qf i = 0) ∧ (Num wr rv r ∧ From (w.heap.size + 1) rv) ∧ 0 ≤ r ∧ r < V ∧ val f n = val f j + val qf n * V + pw j * r ∧ Below w.heap.size w wr
/-- .. and in the middle of the halving. -/
def RdIn (w wr : World) (gq n : Nat) (qf : Nat → Int) (rv vb : Value) (R V lo hi : Int) : Prop :=
  Own wr w.heap.size gq n qf ∧ (Num wr rv R ∧ From (w.heap.size + 1) rv) ∧ Num wr vb V ∧ lo * V ≤ R ∧ R < (hi + 1) * V ∧ Below w.heap.size w wr
theorem RdIn.below {w wr w' : World} {gq n : Nat} {qf : Nat → Int} {rv vb : Value} {R V lo hi : Int} (h : RdIn w wr gq n qf rv vb R V lo hi) (hb : Below wr.heap.size wr w') : RdIn w w' gq n qf rv vb R V lo hi := by
  obtain ⟨a, b, c, d, e, k⟩ := h
  exact ⟨a.below hb a.block.2, ⟨b.1.below hb, b.2⟩, c.below hb, d, e, k.trans (hb.mono k.size)⟩
theorem rd_next (w wr : World) (gq n t : Nat) (f qf : Nat → Int) (V r Q R : Int) (rv : Value) (h9 : All9 qf) (ht : t < n) (hz : ∀ i, i < t + 1 → qf i = 0) (he : val f n = val f (t + 1) + val qf n * V + pw (t + 1) * r) (Q0 : 0 ≤ Q) (Q1 : Q < 1000000000)
    (hR : R = f t + 1000000000 * r) (hQ : Q * V ≤ R) (hQ2 : R < (Q + 1) * V) (hn : Num wr rv (R - V * Q)) (hfr : From (w.heap.size + 1) rv) (hb : Below w.heap.size w wr) (hq : Own wr w.heap.size gq n (upd qf t Q)) : RdRel w wr gq n t f V rv := by
  refine ⟨upd qf t Q, R - V * Q, hq, upd_all h9 t Q Q0 Q1, fun i hi => ?_, ⟨hn, hfr⟩, by rw [Int.mul_comm V]; omega, ?_, ?_, hb⟩
  · rw [show upd qf t Q i = qf i by simp [upd, show ¬ i = t by omega]]; exact hz i (by omega)
  · rw [Int.add_mul] at hQ2; rw [Int.mul_comm V]; omega
  · rw [val_upd qf n t Q ht (hz t (by omega))]
    rw [val_succ, pw_succ] at he
    have := div_step (pw t) (f t) V r Q (R - V * Q) (val qf n) (val f n - val f t) (by rw [Int.mul_comm V]; omega) (by rw [he]; omega)
    omega

set_option maxRecDepth 100000 in
set_option maxHeartbeats 1600000 in
theorem rdiv_any (v0 v1 : Value) (n : Nat) (f : Nat → Int) (V : Int) (w : World) (h0 : Row w v0 n f) (h1 : Num w v1 V) (hf : Limbs n f) (hn : n ≤ 900) (V0 : 0 < V) (V1 : V < pw 400) :
    Calls Tryz.prog 67 #[v0, v1] w fun e w' => ∃ rq, ∃ rr, e = .returned (.tuple #[rq, rr]) ∧ Divides w' rq rr (val f n) V ∧ Below w.heap.size w w' := by
  have hmk := make_row w n (by omega)
  have HS : Hid (RdRel w (w.alloc (.cells (madeCells #[.int .u32 0] n) 76)) w.heap.size n n f V (.slice none 0 0)) := ⟨_, 0, make_own w w.heap.size n (Nat.le_refl _) (by unfold maxLen; omega), fun _ => (by decide : (0 : Int) ≤ 0 ∧ (0 : Int) < 1000000000), fun _ _ => rfl, ⟨num_nil _, from_nil _⟩, by omega, V0, by rw [val_null]; simp, one_below w _⟩
  obtain ⟨a, cap, e0, _⟩ := h0.shape
  have e1 : ∃ a' m cap', v1 = .slice a' m cap' := by
    obtain ⟨m, g, r1, _⟩ := h1
    obtain ⟨a', cap', e, _⟩ := r1.shape
    exact ⟨a', m, cap', e⟩
  obtain ⟨a', m, cap', e1⟩ := e1
  have H0 : Hid (Row w v0 n f) := h0
  have H1 : Hid (Num w v1 V) := h1
  have HF : Hid (Limbs n f) := hf
  clear h0 h1 hf
  subst e0 e1
  go_enter Tryz.func67, Tryz.ntmps67
  go_wp2
  clear hmk
  go_loopw [7, 8] (fun rv i wr => ∃ j : Nat, j ≤ n ∧ i = .int .i64 ((j : Int) - 1) ∧ Hid (RdRel w wr w.heap.size n j f V rv)) (fun _ i _ => (intOf i + 1).toNat)
  case atStart => exact ⟨n, Nat.le_refl _, rfl, HS.out⟩
  case round =>
    obtain ⟨j, hj, rfl, HD⟩ := hrel
    obtain ⟨qf, r, o, q9, hqz, hr, r0, r1, hev, hb⟩ := HD.out
    by_cases hlt : 0 < j
    · obtain ⟨t, rfl⟩ : ∃ t, j = t + 1 := ⟨j - 1, by omega⟩
      obtain ⟨b, off, cp, eS, _, _, hL⟩ := (H0.out.below hb).lies (by omega)
      obtain ⟨rfl, rfl⟩ : a = some ⟨b, off, none⟩ ∧ cap = cp := by simpa using eS
      have cx := hL.cell t (by omega)
      have bx := HF.out t (by omega)
      obtain ⟨⟨rn, rf, hrr, hrc, hrv⟩, _⟩ := hr
      obtain ⟨rf', hrr', he', lo', up'⟩ := hrr.bounded
      have hrc' : Limbs rn rf' := fun i hi => by rw [he' i hi]; exact hrc.1 i hi
      have hrl : rn ≤ 400 := can_le hrc (by rw [hrv]; omega)
      obtain ⟨R, hR⟩ : ∃ R, f t + 1000000000 * r = R := ⟨_, rfl⟩
      have hRv : val (cons9 (f t) rf') (1 + rn) = R := by rw [val_cons, val_congr he', hrv, hR]
      have R0 : 0 ≤ R := by omega
      have R1 : R < 1000000000 * V := by omega
      have lR : R < pw 1000 := by
        have h1 := pw_mono (show 401 ≤ 1000 by omega)
        have h2 : pw 401 = pw 400 * 1000000000 := pw_succ 400
        omega
      have hok : (wr.alloc (.cells #[.int .u32 (f t)] 76)).ownsRow w.heap.size 76 1 (.slice (some ⟨wr.heap.size, 0, none⟩) 1 1) 1 [.int .u32 (f t)] := World.ownsRow_lit wr #[.int .u32 (f t)] 1 hb.size (by simp [maxLen]) rfl
      have hA : Row (wr.alloc (.cells #[.int .u32 (f t)] 76)) u7 rn rf' := hrr'.alloc _
      have hbl := one_below wr (.cells #[.int .u32 (f t)] 76)
      have HC9 : Hid (Limbs (1 + rn) (cons9 (f t) rf')) := fun i hi => by
        unfold cons9
        split
        · exact bx
        · exact hrc' (i - 1) (by omega)
      have HLU : Hid ((∀ i, 0 ≤ cons9 (f t) rf' i) ∧ (∀ i, cons9 (f t) rf' i < 4294967296)) := by
        constructor
        · intro i; unfold cons9; split
          · omega
          · exact lo' _
        · intro i; unfold cons9; split
          · omega
          · exact up' _
      have HRV : Hid (val (cons9 (f t) rf') (1 + rn) = R) := hRv
      have HRE : Hid (R = f t + 1000000000 * r) := hR.symm
      have HO : Hid (Own wr w.heap.size w.heap.size n qf) := o
      have HQ9 : Hid (All9 qf ∧ (∀ i, i < t + 1 → qf i = 0) ∧ val f n = val f (t + 1) + val qf n * V + pw (t + 1) * r) := ⟨q9, hqz, hev⟩
      have HB : Hid (Below w.heap.size w wr) := hb
      have hzw := hb.size
      have i0 : ((t + 1 : Nat) : Int) - 1 = (t : Int) := by omega
      have i1 : (t : Int) < (n : Int) := by omega
      obtain ⟨x, hx⟩ : ∃ x, f t = x := ⟨_, rfl⟩
      rw [hx] at cx hok hA hbl HC9 HLU HRV
      clear HD o q9 hqz hrr hrc hrv hev hb hrr' he' lo' up' hrc' hL hRv hR hx bx
      rw [i0]
      obtain ⟨ra, rcap, er, _⟩ := hA.shape
      go_wp2_with (at_builtin; refine wpList_append_row rfl (.tmp 26) (.tmp 27) rfl w.heap.size _ _ _ rfl hok _ rn rf' rfl hA (by omega) (by simp; omega) ?_)
      intro v' w2 hown2 hgrow2
      rw [show Value.int .u32 x :: vals rn rf' = [Value.int .u32 x] ++ vals rn rf' from rfl, vals_cons] at hown2
      have b2 : Below wr.heap.size wr w2 := hbl.grown hgrow2 (by simp) (fun k hk => by simp [Value.ownBlock] at hk; omega)
      have ht := rtrim_any v' (1 + rn) _ w2 (row_own HLU.out.1 HLU.out.2 hown2) (by omega)
      clear hok hA hbl hown2 hgrow2
      go_wp2_with fail
      refine ht.mono ?_
      rintro e w3 ⟨rv, rfl, hrv3, frv, b3⟩
      clear ht
      have b23 : Below wr.heap.size wr w3 := b2.trans (b3.mono b2.size)
      have bw3 : Below w.heap.size w w3 := HB.out.trans (b23.mono hzw)
      have HI : Hid (RdIn w w3 w.heap.size n qf rv (.slice a' m cap') R V 0 999999999) := ⟨HO.out.below b23 (HO.out.block.2), ⟨rnum_of_trim HC9.out hrv3 HRV.out, fun a n c e => by have h1 := frv a n c e; have h2 := HO.out.block.2; have h3 := b2.size; omega⟩, H1.out.below bw3, by omega, by omega, bw3⟩
      clear b2 b3 b23 bw3 hrv3 HO HB HC9 HLU HRV
      go_wp2
      go_loopw [9, 10] (fun l h wrI => ∃ lo hi : Int, l = .int .u32 lo ∧ h = .int .u32 hi ∧ 0 ≤ lo ∧ lo ≤ hi ∧ hi ≤ 999999999 ∧ Hid (RdIn w wrI w.heap.size n qf rv (.slice a' m cap') R V lo hi)) (fun l h _ => (intOf h - intOf l).toNat)
      case atStart => exact ⟨0, 999999999, rfl, rfl, by omega, by omega, by omega, HI.out⟩
      case round =>
        obtain ⟨lo, hi, rfl, rfl, lo0, lohi, hi9, HJ⟩ := hrel
        by_cases hlh : lo < hi
        · obtain ⟨mid, hmid⟩ : ∃ mid, lo + (hi - lo + 1) / 2 = mid := ⟨_, rfl⟩
          have md0 : lo < mid := by omega
          have md1 : mid ≤ hi := by omega
          have h1 := trim_limb wr mid (by omega) (by omega)
          clear HI
          go_wp2_with fail
          refine h1.mono ?_
          rintro e w5 ⟨rm, rfl, hrm, b5⟩
          clear h1
          have HJ5 := HJ.out.below b5
          have h2 := rmul_num (.slice a' m cap') rm V mid w5 HJ5.2.2.1 hrm (lt_pw V1 (by omega)) (by have := one_pw9; omega)
          clear hrm
          go_wp2_with fail
          refine h2.mono ?_
          rintro e w6 ⟨rp, rfl, hrp, b6⟩
          clear h2
          have HJ6 := HJ5.below b6
          have h3 := rcompare_num rp rv (V * mid) R w6 hrp HJ6.2.1.1
          have HJ7 : Hid (∀ q, RdIn w (w6.drewN q) w.heap.size n qf rv (.slice a' m cap') R V lo hi) := fun q => HJ6.below (below_drewN (Below.refl _ _) q)
          clear hrp HJ HJ5 HJ6 b5 b6
          by_cases hle : V * mid ≤ R
          · have hcl : decide (cmpI (V * mid) R ≤ 0) = true := by rw [cmpI_le]; exact decide_eq_true hle
            have HK : Hid (∀ q, RdIn w (w6.drewN q) w.heap.size n qf rv (.slice a' m cap') R V mid hi) := fun q => by
              obtain ⟨k1, k2, k3, k4, k5, k6⟩ := HJ7.out q
              exact ⟨k1, k2, k3, by rw [Int.mul_comm]; exact hle, k5, k6⟩
            clear HJ7 hle
            generalize cmpI (V * mid) R = C at *
            go_wp2_with fail
            refine h3.mono ?_
            rintro e w7 ⟨rfl, q, rfl⟩
            clear h3
            go_wp2
            go_roundw
            case rel => exact ⟨mid, hi, rfl, rfl, by omega, by omega, by omega, HK.out q⟩
            case measure => simp [intOf]; omega
          · have hcl : decide (cmpI (V * mid) R ≤ 0) = false := by rw [cmpI_le]; exact decide_eq_false hle
            have HK : Hid (∀ q, RdIn w (w6.drewN q) w.heap.size n qf rv (.slice a' m cap') R V lo (mid - 1)) := fun q => by
              obtain ⟨k1, k2, k3, k4, k5, k6⟩ := HJ7.out q
              exact ⟨k1, k2, k3, k4, by rw [show mid - 1 + 1 = mid by omega, Int.mul_comm]; omega, k6⟩
            clear HJ7 hle
            generalize cmpI (V * mid) R = C at *
            go_wp2_with fail
            refine h3.mono ?_
            rintro e w7 ⟨rfl, q, rfl⟩
            clear h3
            go_wp2
            go_roundw
            case rel => exact ⟨lo, mid - 1, rfl, rfl, by omega, by omega, by omega, HK.out q⟩
            case measure => simp [intOf]; omega
        · have e : lo = hi := by omega
          subst e
          obtain ⟨k1, k2, k3, k4, k5, k6⟩ := HJ.out
          have cq := k1.cell t (by omega)
          have fq := k1.free t
          have o4 : Own (wr.setCell ⟨w.heap.size, t, none⟩ (.int .u32 lo)) w.heap.size w.heap.size n (upd qf t lo) := k1.stored t lo
          have bs : Below w.heap.size w (wr.setCell ⟨w.heap.size, t, none⟩ (.int .u32 lo)) := k6.setCell (Nat.le_refl _) _
          have k2s := k2.1.set k2.2 ⟨w.heap.size, t, none⟩ (Nat.lt_succ_self _) (.int .u32 lo)
          have k3s := H1.out.below bs
          have h1 := trim_limb (wr.setCell ⟨w.heap.size, t, none⟩ (.int .u32 lo)) lo lo0 (by omega)
          have HRN : Hid (∀ w9 rv9, Own w9 w.heap.size w.heap.size n (upd qf t lo) → Num w9 rv9 (R - V * lo) → From (w.heap.size + 1) rv9 → Below w.heap.size w w9 → RdRel w w9 w.heap.size n t f V rv9) := fun w9 rv9 o9 n9 f9 b9 =>
            rd_next w w9 w.heap.size n t f qf V r lo R rv9 HQ9.out.1 (by omega) HQ9.out.2.1 HQ9.out.2.2 lo0 (by omega) HRE.out k4 k5 n9 f9 b9 o9
          have hws : (wr.setCell ⟨w.heap.size, t, none⟩ (.int .u32 lo)).heap.size = wr.heap.size := by simp [World.setCell]
          have gq1 := k1.block.2
          have hlV : V * lo ≤ R := by rw [Int.mul_comm]; exact k4
          clear k1 k2 k3 k4 k5 k6 HJ HQ9 HRE HI
          obtain ⟨ws, hwse⟩ : ∃ ws, ws = wr.setCell ⟨w.heap.size, t, none⟩ (.int .u32 lo) := ⟨_, rfl⟩
          rw [← hwse] at o4 bs k2s k3s h1 hws
          rw [hws] at h1
          have HWS : Hid (ws = wr.setCell ⟨w.heap.size, t, none⟩ (.int .u32 lo)) := hwse
          go_wp2_with fail
          rw [← hwse]
          clear hwse
          refine h1.mono ?_
          rintro e w5 ⟨rm, rfl, hrm, b5⟩
          rw [← hws] at b5
          clear h1
          have h2 := rmul_num (.slice a' m cap') rm V lo w5 (k3s.below b5) hrm (lt_pw V1 (by omega)) (by have := one_pw9; omega)
          have k25 := k2s.below b5
          have o5 := o4.below b5 (by rw [hws]; exact gq1)
          have bs5 : Below w.heap.size w w5 := bs.trans (b5.mono bs.size)
          have z5 := b5.size
          clear hrm k2s o4 bs b5
          go_wp2_with fail
          refine h2.mono ?_
          rintro e w6 ⟨rp, rfl, hrp, b6⟩
          clear h2
          have h3 := rsub_n rv rp R (V * lo) w6 (k25.below b6) hrp lR hlV
          have o6 := o5.below b6 (by omega)
          have bs6 : Below w.heap.size w w6 := bs5.trans (b6.mono bs5.size)
          have z6 := b6.size
          clear hrp k25 o5 bs5 b6
          go_wp2_with fail
          refine h3.mono ?_
          rintro e w7 ⟨rs, rfl, ⟨hrs, frs⟩, b7⟩
          clear h3
          have HR : Hid (RdRel w w7 w.heap.size n t f V rs) := HRN.out w7 rs (o6.below b7 (by omega)) hrs (fun a n c e => by have := frs a n c e; omega) (bs6.trans (b7.mono bs6.size))
          clear HRN o6 bs6 b7 hrs frs
          go_wp2
          go_roundw
          case rel => exact ⟨t, by omega, by go_num, HR.out⟩
          case measure => simp [intOf]
    · have e : j = 0 := by omega
      subst e
      have ht := rtrim_any _ n qf wr (o.row (fun i => (q9 i).1) (fun i => by have := (q9 i).2; omega) (by unfold maxLen; omega)) (by omega)
      have HE : Hid (∀ rq w2, Below wr.heap.size wr w2 → (∃ m' f', Row w2 rq m' f' ∧ (∀ i, i < m' → f' i = qf i) ∧ Trims n qf m') → Divides w2 rq u7 (val f n) V) := fun rq w2 hb2 k =>
        ⟨val qf n, r, rnum_of_trim (fun i _ => q9 i) k rfl, hr.1.below hb2, by rw [val_zero, pw_zero] at hev; omega, r0, r1⟩
      have e7 : ∃ ra rn rc, u7 = .slice ra rn rc := by
        obtain ⟨⟨rn, rf, hrr, _⟩, _⟩ := hr
        obtain ⟨ra, rc, e, _⟩ := hrr.shape
        exact ⟨ra, rn, rc, e⟩
      obtain ⟨ra, rn, rc, e7⟩ := e7
      subst e7
      clear HD o q9 hqz hr hev
      go_wp2_with fail
      refine ht.mono ?_
      rintro e w4 ⟨rq, rfl, hrq, _, b4⟩
      clear ht
      go_wp2
      go_ret2
      exact ⟨_, _, rfl, HE.out _ _ b4 hrq, hb.trans (b4.mono hb.size)⟩
theorem rdiv_num (v0 v1 : Value) (A V : Int) (w : World) (h0 : Num w v0 A) (h1 : Num w v1 V) (hA : A < pw 900) (V0 : 0 < V) (V1 : V < pw 400) :
    Calls Tryz.prog 67 #[v0, v1] w fun e w' => ∃ rq, ∃ rr, e = .returned (.tuple #[rq, rr]) ∧ Divides w' rq rr A V ∧ Below w.heap.size w w' := by
  obtain ⟨n, f, r0, c0, e0⟩ := h0
  have := can_le c0 (k := 900) (by rw [e0]; exact hA)
  have := rdiv_any v0 v1 n f V w r0 h1 c0.1 (by omega) V0 V1
  rw [e0] at this
  exact this
end Go.Proofs.YtfhapeinfhjihaaGreatDoor

namespace Go.Proofs.YtfhapeinfhjihaaGreatDoor
open Go.RowKit

theorem pow_mod (y M : Int) (k : Nat) : (y % M) ^ k % M = y ^ k % M := by
  induction k with
  | zero => simp
  | succ k ih => rw [Int.pow_succ, Int.pow_succ, Int.mul_emod, ih, Int.emod_emod, ← Int.mul_emod]
theorem sq_pow (x : Int) (k : Nat) : (x * x) ^ k = x ^ (2 * k) := by
  induction k with
  | zero => simp
  | succ k ih => rw [Int.pow_succ, ih, show 2 * (k + 1) = 2 * k + 1 + 1 by omega, Int.pow_succ, Int.pow_succ, Int.mul_assoc]
theorem pw_even (o x M : Int) (k : Nat) : (o * ((x * x) % M) ^ k) % M = (o * x ^ (2 * k)) % M := by
  rw [Int.mul_emod, pow_mod, ← Int.mul_emod, sq_pow]
theorem pw_odd (o x M : Int) (k : Nat) : (((o * x) % M) * ((x * x) % M) ^ k) % M = (o * x ^ (2 * k + 1)) % M := by
  rw [Int.mul_emod, pow_mod, Int.emod_emod, ← Int.mul_emod, sq_pow, Int.pow_succ, Int.mul_comm (x ^ (2 * k)) x, ← Int.mul_assoc]

set_option maxHeartbeats 400000 in
theorem rmul_bad (v0 v1 : Value) (n m : Nat) (f g : Nat → Int) (w : World) (h0 : Row w v0 n f) (h1 : Row w v1 m g) (hk : ¬ (Can n f ∧ Can m g)) :
    Calls Tryz.prog 41 #[v0, v1] w fun e w' => e = .returned (.tuple #[.slice none 0 0, .int .i64 2]) ∧ w = w' := by
  by_cases c0 : Can n f
  · have k0 := rcheck_ok v0 n f w h0 c0
    have k1 := rcheck_bad v1 m g w h1 (fun c1 => hk ⟨c0, c1⟩)
    obtain ⟨a, cap, rfl, _⟩ := h0.shape
    obtain ⟨a', cap', rfl, _⟩ := h1.shape
    clear h0 h1 c0 hk
    go_enter Tryz.func41, Tryz.ntmps41
    go_wp2_with fail
    refine k0.mono ?_
    rintro e w' ⟨rfl, rfl⟩
    go_wp2_with fail
    refine k1.mono ?_
    rintro e w' ⟨rfl, rfl⟩
    go_wp2
    go_ret2
    exact ⟨rfl, rfl⟩
  · have k0 := rcheck_bad v0 n f w h0 c0
    obtain ⟨a, cap, rfl, _⟩ := h0.shape
    obtain ⟨a', cap', rfl, _⟩ := h1.shape
    clear h0 h1 c0 hk
    go_enter Tryz.func41, Tryz.ntmps41
    go_wp2_with fail
    refine k0.mono ?_
    rintro e w' ⟨rfl, rfl⟩
    go_wp2
    go_ret2
    exact ⟨rfl, rfl⟩

set_option maxHeartbeats 400000 in
theorem rdiv_bad (v0 v1 : Value) (n m : Nat) (f g : Nat → Int) (w : World) (h0 : Row w v0 n f) (h1 : Row w v1 m g) (hk : ¬ (Can n f ∧ Can m g)) :
    Calls Tryz.prog 42 #[v0, v1] w fun e w' => e = .returned (.tuple #[.slice none 0 0, .slice none 0 0, .int .i64 2]) ∧ w = w' := by
  by_cases c0 : Can n f
  · have k0 := rcheck_ok v0 n f w h0 c0
    have k1 := rcheck_bad v1 m g w h1 (fun c1 => hk ⟨c0, c1⟩)
    obtain ⟨a, cap, rfl, _⟩ := h0.shape
    obtain ⟨a', cap', rfl, _⟩ := h1.shape
    clear h0 h1 c0 hk
    go_enter Tryz.func42, Tryz.ntmps42
    go_wp2_with fail
    refine k0.mono ?_
    rintro e w' ⟨rfl, rfl⟩
    go_wp2_with fail
    refine k1.mono ?_
    rintro e w' ⟨rfl, rfl⟩
    go_wp2
    go_ret3
    exact ⟨rfl, rfl⟩
  · have k0 := rcheck_bad v0 n f w h0 c0
    obtain ⟨a, cap, rfl, _⟩ := h0.shape
    obtain ⟨a', cap', rfl, _⟩ := h1.shape
    clear h0 h1 c0 hk
    go_enter Tryz.func42, Tryz.ntmps42
    go_wp2_with fail
    refine k0.mono ?_
    rintro e w' ⟨rfl, rfl⟩
    go_wp2
    go_ret3
    exact ⟨rfl, rfl⟩

set_option maxHeartbeats 400000 in
theorem rpower_bad (v0 v1 : Value) (n m : Nat) (f g : Nat → Int) (nn : Int) (w : World) (h0 : Row w v0 n f) (h1 : Row w v1 m g) (hk : ¬ (Can n f ∧ Can m g)) :
    Calls Tryz.prog 40 #[v0, .int .i64 nn, v1] w fun e w' => e = .returned (.tuple #[.slice none 0 0, .int .i64 2]) ∧ w = w' := by
  by_cases c0 : Can n f
  · have k0 := rcheck_ok v0 n f w h0 c0
    have k1 := rcheck_bad v1 m g w h1 (fun c1 => hk ⟨c0, c1⟩)
    obtain ⟨a, cap, rfl, _⟩ := h0.shape
    obtain ⟨a', cap', rfl, _⟩ := h1.shape
    clear h0 h1 c0 hk
    go_enter Tryz.func40, Tryz.ntmps40
    go_wp2_with fail
    refine k0.mono ?_
    rintro e w' ⟨rfl, rfl⟩
    go_wp2_with fail
    refine k1.mono ?_
    rintro e w' ⟨rfl, rfl⟩
    go_wp2
    go_ret2
    exact ⟨rfl, rfl⟩
  · have k0 := rcheck_bad v0 n f w h0 c0
    obtain ⟨a, cap, rfl, _⟩ := h0.shape
    obtain ⟨a', cap', rfl, _⟩ := h1.shape
    clear h0 h1 c0 hk
    go_enter Tryz.func40, Tryz.ntmps40
    go_wp2_with fail
    refine k0.mono ?_
    rintro e w' ⟨rfl, rfl⟩
    go_wp2
    go_ret2
    exact ⟨rfl, rfl⟩

set_option maxHeartbeats 400000 in
theorem nmul_bad (v0 v1 : Value) (n m : Nat) (f g : Nat → Int) (w : World) (h0 : Row w v0 n f) (h1 : Row w v1 m g) (hk0 : ¬ (Can n f ∧ Can m g)) :
    Calls Tryz.prog 21 #[v0, v1] w fun e w' => e = .returned (.tuple #[.slice none 0 0, .int .i64 2]) ∧ Below w.heap.size w w' := by
  have hk := (checked_new v0 v1 n m f g w h0 h1).2 hk0
  obtain ⟨a, cap, rfl, _⟩ := h0.shape
  obtain ⟨a', cap', rfl, _⟩ := h1.shape
  have hbl : Below w.heap.size w (w.alloc (.cells #[.slice a n cap, .slice a' m cap'] 45)) := one_below w _
  clear h0 h1 hk0
  go_enter Tryz.func21, Tryz.ntmps21
  go_wp2_with fail
  refine hk.mono ?_
  rintro e w' ⟨rfl, rfl⟩
  go_wp2
  go_ret2
  exact ⟨rfl, hbl⟩

set_option maxHeartbeats 400000 in
theorem ndiv_bad (v0 v1 : Value) (n m : Nat) (f g : Nat → Int) (w : World) (h0 : Row w v0 n f) (h1 : Row w v1 m g) (hk0 : ¬ (Can n f ∧ Can m g)) :
    Calls Tryz.prog 63 #[v0, v1] w fun e w' => e = .returned (.tuple #[.slice none 0 0, .slice none 0 0, .int .i64 2]) ∧ Below w.heap.size w w' := by
  have hk := (checked_new v0 v1 n m f g w h0 h1).2 hk0
  obtain ⟨a, cap, rfl, _⟩ := h0.shape
  obtain ⟨a', cap', rfl, _⟩ := h1.shape
  have hbl : Below w.heap.size w (w.alloc (.cells #[.slice a n cap, .slice a' m cap'] 45)) := one_below w _
  clear h0 h1 hk0
  go_enter Tryz.func63, Tryz.ntmps63
  go_wp2_with fail
  refine hk.mono ?_
  rintro e w' ⟨rfl, rfl⟩
  go_wp2
  go_ret3
  exact ⟨rfl, hbl⟩

set_option maxRecDepth 100000 in
set_option maxHeartbeats 800000 in
theorem rmul_ok (v0 v1 : Value) (A B : Int) (n m : Nat) (f g : Nat → Int) (w : World) (h0 : Row w v0 n f) (h1 : Row w v1 m g) (c0 : Can n f) (c1 : Can m g) (e0 : val f n = A) (e1 : val g m = B) (hA9 : A < pw 400) (hB9 : B < pw 400) :
    Calls Tryz.prog 41 #[v0, v1] w fun e w' => ∃ r, e = .returned (.tuple #[r, .int .i64 0]) ∧ Num w' r (A * B) ∧ Below w.heap.size w w' := by
  have k0 := rcheck_ok v0 n f w h0 c0
  have k1 := rcheck_ok v1 m g w h1 c1
  have hA : Num w v0 A := ⟨n, f, h0, c0, e0⟩
  have hB : Num w v1 B := ⟨m, g, h1, c1, e1⟩
  obtain ⟨a, cap, rfl, _⟩ := h0.shape
  obtain ⟨a', cap', rfl, _⟩ := h1.shape
  have hs := rmul_num _ _ A B w hA hB (lt_pw hA9 (by omega)) (lt_pw hB9 (by omega))
  clear h0 h1 c0 c1 e0 e1
  go_enter Tryz.func41, Tryz.ntmps41
  go_wp2_with fail
  refine k0.mono ?_
  rintro e w' ⟨rfl, rfl⟩
  go_wp2_with fail
  refine k1.mono ?_
  rintro e w' ⟨rfl, rfl⟩
  clear k0 k1
  go_wp2_with fail
  refine hs.mono ?_
  rintro e w2 ⟨r, rfl, hr, b2⟩
  clear hs
  go_wp2
  go_ret2
  exact ⟨_, rfl, hr, b2⟩

set_option maxRecDepth 100000 in
set_option maxHeartbeats 800000 in
theorem rdiv_zero (v0 v1 : Value) (A B : Int) (n m : Nat) (f g : Nat → Int) (w : World) (h0 : Row w v0 n f) (h1 : Row w v1 m g) (c0 : Can n f) (c1 : Can m g) (e0 : val f n = A) (e1 : val g m = B) (hz : m = 0) :
    Calls Tryz.prog 42 #[v0, v1] w fun e w' => e = .returned (.tuple #[.slice none 0 0, .slice none 0 0, .int .i64 20]) ∧ w = w' := by
  have k0 := rcheck_ok v0 n f w h0 c0
  have k1 := rcheck_ok v1 m g w h1 c1
  have hA : Num w v0 A := ⟨n, f, h0, c0, e0⟩
  have hB : Num w v1 B := ⟨m, g, h1, c1, e1⟩
  obtain ⟨a, cap, rfl, _⟩ := h0.shape
  obtain ⟨a', cap', rfl, _⟩ := h1.shape
  subst hz
  clear h0 h1 c0 c1 e0 e1
  go_enter Tryz.func42, Tryz.ntmps42
  go_wp2_with fail
  refine k0.mono ?_
  rintro e w' ⟨rfl, rfl⟩
  go_wp2_with fail
  refine k1.mono ?_
  rintro e w' ⟨rfl, rfl⟩
  clear k0 k1
  go_wp2
  go_ret3
  exact ⟨rfl, rfl⟩

set_option maxRecDepth 100000 in
set_option maxHeartbeats 800000 in
theorem rdiv_ok (v0 v1 : Value) (A B : Int) (n m : Nat) (f g : Nat → Int) (w : World) (h0 : Row w v0 n f) (h1 : Row w v1 m g) (c0 : Can n f) (c1 : Can m g) (e0 : val f n = A) (e1 : val g m = B) (hA9 : A < pw 400) (hB9 : B < pw 400) (hB0 : 0 < B) :
    Calls Tryz.prog 42 #[v0, v1] w fun e w' => ∃ rq, ∃ rr, e = .returned (.tuple #[rq, rr, .int .i64 0]) ∧ Divides w' rq rr A B ∧ Below w.heap.size w w' := by
  have k0 := rcheck_ok v0 n f w h0 c0
  have k1 := rcheck_ok v1 m g w h1 c1
  have hA : Num w v0 A := ⟨n, f, h0, c0, e0⟩
  have hB : Num w v1 B := ⟨m, g, h1, c1, e1⟩
  obtain ⟨a, cap, rfl, _⟩ := h0.shape
  obtain ⟨a', cap', rfl, _⟩ := h1.shape
  have hz : ((m : Int) == 0) = false := beq_eq_false_iff_ne.2 (by have := num_pos_len c1 hB0 e1; omega)
  have hs := rdiv_num _ _ A B w hA hB (lt_pw hA9 (by omega)) hB0 hB9
  clear h0 h1 c0 c1 e0 e1
  go_enter Tryz.func42, Tryz.ntmps42
  go_wp2_with fail
  refine k0.mono ?_
  rintro e w' ⟨rfl, rfl⟩
  go_wp2_with fail
  refine k1.mono ?_
  rintro e w' ⟨rfl, rfl⟩
  clear k0 k1
  go_wp2_with fail
  refine hs.mono ?_
  rintro e w2 ⟨rq, rr, rfl, hr, b2⟩
  clear hs
  go_wp2
  go_ret3
  exact ⟨_, _, rfl, hr, b2⟩

set_option maxRecDepth 100000 in
set_option maxHeartbeats 800000 in
theorem rpower_zero (v0 v1 : Value) (A B : Int) (n m : Nat) (f g : Nat → Int) (nn : Int) (w : World) (h0 : Row w v0 n f) (h1 : Row w v1 m g) (c0 : Can n f) (c1 : Can m g) (e0 : val f n = A) (e1 : val g m = B) (hz : m = 0) :
    Calls Tryz.prog 40 #[v0, .int .i64 nn, v1] w fun e w' => e = .returned (.tuple #[.slice none 0 0, .int .i64 20]) ∧ w = w' := by
  have k0 := rcheck_ok v0 n f w h0 c0
  have k1 := rcheck_ok v1 m g w h1 c1
  have hA : Num w v0 A := ⟨n, f, h0, c0, e0⟩
  have hB : Num w v1 B := ⟨m, g, h1, c1, e1⟩
  obtain ⟨a, cap, rfl, _⟩ := h0.shape
  obtain ⟨a', cap', rfl, _⟩ := h1.shape
  subst hz
  clear h0 h1 c0 c1 e0 e1
  go_enter Tryz.func40, Tryz.ntmps40
  go_wp2_with fail
  refine k0.mono ?_
  rintro e w' ⟨rfl, rfl⟩
  go_wp2_with fail
  refine k1.mono ?_
  rintro e w' ⟨rfl, rfl⟩
  clear k0 k1
  go_wp2
  go_ret2
  exact ⟨rfl, rfl⟩

set_option maxRecDepth 100000 in
set_option maxHeartbeats 800000 in
theorem rpower_neg (v0 v1 : Value) (A B : Int) (n m : Nat) (f g : Nat → Int) (nn : Int) (w : World) (h0 : Row w v0 n f) (h1 : Row w v1 m g) (c0 : Can n f) (c1 : Can m g) (e0 : val f n = A) (e1 : val g m = B) (hz : 0 < m) (hn : nn < 0) :
    Calls Tryz.prog 40 #[v0, .int .i64 nn, v1] w fun e w' => e = .returned (.tuple #[.slice none 0 0, .int .i64 2]) ∧ w = w' := by
  have k0 := rcheck_ok v0 n f w h0 c0
  have k1 := rcheck_ok v1 m g w h1 c1
  have hA : Num w v0 A := ⟨n, f, h0, c0, e0⟩
  have hB : Num w v1 B := ⟨m, g, h1, c1, e1⟩
  obtain ⟨a, cap, rfl, _⟩ := h0.shape
  obtain ⟨a', cap', rfl, _⟩ := h1.shape
  have hmz : ((m : Int) == 0) = false := beq_eq_false_iff_ne.2 (by omega)
  clear h0 h1 c0 c1 e0 e1
  go_enter Tryz.func40, Tryz.ntmps40
  go_wp2_with fail
  refine k0.mono ?_
  rintro e w' ⟨rfl, rfl⟩
  go_wp2_with fail
  refine k1.mono ?_
  rintro e w' ⟨rfl, rfl⟩
  clear k0 k1
  go_wp2
  go_ret2
  exact ⟨rfl, rfl⟩

set_option maxRecDepth 100000 in
set_option maxHeartbeats 1600000 in
theorem rpower_ok (v0 v1 : Value) (A M : Int) (n m : Nat) (f g : Nat → Int) (nn : Int) (w : World) (h0 : Row w v0 n f) (h1 : Row w v1 m g) (c0 : Can n f) (c1 : Can m g) (e0 : val f n = A) (e1 : val g m = M) (hA9 : A < pw 400) (hM9 : M < pw 400) (hM0 : 0 < M) (n0 : 0 ≤ nn) (n1 : nn < 9223372036854775808) :
    Calls Tryz.prog 40 #[v0, .int .i64 nn, v1] w fun e w' => ∃ r, e = .returned (.tuple #[r, .int .i64 0]) ∧ Num w' r (A ^ nn.toNat % M) ∧ Below w.heap.size w w' := by
  have k0 := rcheck_ok v0 n f w h0 c0
  have k1 := rcheck_ok v1 m g w h1 c1
  have hA : Num w v0 A := ⟨n, f, h0, c0, e0⟩
  have hM : Num w v1 M := ⟨m, g, h1, c1, e1⟩
  have hmz : ((m : Int) == 0) = false := beq_eq_false_iff_ne.2 (by have := num_pos_len c1 hM0 e1; omega)
  obtain ⟨a, cap, rfl, _⟩ := h0.shape
  obtain ⟨a', cap', rfl, _⟩ := h1.shape
  clear h0 h1 c0 c1 e0 e1
  have N0 : ¬ nn < 0 := by omega
  have o1 := one_below w (.cells #[.int .u32 1] 76)
  have hd1 := rdiv_num _ _ 1 M _ (num_lit1 w 1 (by omega) (by omega)) (hM.below o1) (by have := pw_mono (show 2 ≤ 900 by omega); have h2 : pw 2 = 1000000000000000000 := (by decide); omega) hM0 hM9
  obtain ⟨E, hE⟩ : ∃ E, A ^ nn.toNat % M = E := ⟨_, rfl⟩
  rw [hE]
  have HEE : Hid (A ^ nn.toNat % M = E) := hE
  clear hE
  go_enter Tryz.func40, Tryz.ntmps40
  go_wp2_with fail
  refine k0.mono ?_
  rintro e w' ⟨rfl, rfl⟩
  go_wp2_with fail
  refine k1.mono ?_
  rintro e w' ⟨rfl, rfl⟩
  clear k0 k1
  go_wp2_with fail
  refine hd1.mono ?_
  rintro e w1 ⟨q1, r1, rfl, ⟨Q1, R1, _, hR1, eD1, p1, s1⟩, b1⟩
  clear hd1
  rw [(divides_eq eD1 p1 s1).2] at hR1
  have b01 : Below w.heap.size w w1 := o1.trans (b1.mono o1.size)
  have hd2 := rdiv_num _ _ A M w1 (hA.below b01) (hM.below b01) (lt_pw hA9 (by omega)) hM0 hM9
  clear eD1 p1 s1 b1 o1
  go_wp2_with fail
  refine hd2.mono ?_
  rintro e w2 ⟨q2, r2, rfl, ⟨Q2, R2, _, hR2, eD2, p2, s2⟩, b2⟩
  clear hd2
  rw [(divides_eq eD2 p2 s2).2] at hR2
  have b02 : Below w.heap.size w w2 := b01.trans (b2.mono b01.size)
  have HS : Hid (∃ o x, Num w2 r1 o ∧ Num w2 r2 x ∧ 0 ≤ o ∧ o < M ∧ 0 ≤ x ∧ x < M ∧ o * x ^ nn.toNat % M = E ∧ Below w.heap.size w w2) :=
    ⟨_, _, hR1.below b2, hR2, Int.emod_nonneg _ (by omega), Int.emod_lt_of_pos _ hM0, Int.emod_nonneg _ (by omega), Int.emod_lt_of_pos _ hM0, by rw [Int.mul_emod, Int.emod_emod, pow_mod, ← Int.mul_emod, Int.one_mul]; exact HEE.out, b02⟩
  have HMM : Hid (Num w (.slice a' m cap') M) := hM
  clear eD2 p2 s2 b2 b01 b02 hR1 hR2 hA hM
  go_wp2
  go_loopw [9, 11, 1] (fun vo vx i wr => ∃ k : Nat, k ≤ nn.toNat ∧ i = .int .i64 k ∧ Hid (∃ o x, Num wr vo o ∧ Num wr vx x ∧ 0 ≤ o ∧ o < M ∧ 0 ≤ x ∧ x < M ∧ o * x ^ k % M = E ∧ Below w.heap.size w wr)) (fun _ _ i _ => (intOf i).toNat)
  case atStart => exact ⟨nn.toNat, Nat.le_refl _, by rw [Int.toNat_of_nonneg n0], HS.out⟩
  case round =>
    obtain ⟨k, hk, rfl, HI⟩ := hrel
    obtain ⟨o, x, ho, hx, o0, o1, x0, x1, hev, hb⟩ := HI.out
    by_cases hlt : 0 < k
    · have hIk : (0 : Int) < (k : Int) := by omega
      have lo : o < pw 400 := by omega
      have lx : x < pw 400 := by omega
      have HMw := fun w3 (b : Below wr.heap.size wr w3) => (HMM.out.below hb).below b
      have HBw := fun w3 (b : Below wr.heap.size wr w3) => hb.trans (b.mono hb.size)
      obtain ⟨h2, hh2⟩ : ∃ h2, k / 2 = h2 := ⟨_, rfl⟩
      have ed : (k : Int) / 2 = (h2 : Int) := by omega
      have etd : (k : Int).tdiv 2 = (h2 : Int) := by rw [Int.tdiv_eq_ediv_of_nonneg (by omega)]; exact ed
      have hb2 : (h2 : Int) < 9223372036854775808 := by omega
      have hk2 : k = 2 * h2 ∨ k = 2 * h2 + 1 := by omega
      have HK2 : Hid (k / 2 = h2) := hh2
      clear hh2
      by_cases hbit : k % 2 = 1
      · have hbI : ((k : Int) % 2 == 1) = true := by simp; omega
        have h1 := rmul_num u9 u11 o x wr ho hx (lt_pw lo (by omega)) (lt_pw lx (by omega))
        have HX : Hid (Num wr u11 x) := hx
        have HEV : Hid (o * x ^ k % M = E) := hev
        clear HI ho hx hev
        go_wp2_with fail
        refine h1.mono ?_
        rintro e w3 ⟨r3, rfl, h3, b3⟩
        clear h1
        have h4 := rdiv_num r3 _ (o * x) M w3 h3 (HMw w3 b3) (lt_pw (mul_pw o0 lo lx) (by omega)) hM0 hM9
        clear h3
        go_wp2_with fail
        refine h4.mono ?_
        rintro e w4 ⟨q4, r4, rfl, ⟨Q4, R4, _, hR4, eD4, p4, s4⟩, b4⟩
        clear h4
        rw [(divides_eq eD4 p4 s4).2] at hR4
        have b34 : Below wr.heap.size wr w4 := b3.trans (b4.mono b3.size)
        have h5 := rmul_num u11 u11 x x w4 (HX.out.below b34) (HX.out.below b34) (lt_pw lx (by omega)) (lt_pw lx (by omega))
        clear b3 b4 eD4 p4 s4
        go_wp2_with fail
        refine h5.mono ?_
        rintro e w5 ⟨r5, rfl, h5', b5⟩
        clear h5
        have b35 : Below wr.heap.size wr w5 := b34.trans (b5.mono b34.size)
        have hR5 := hR4.below b5
        have h6 := rdiv_num r5 _ (x * x) M w5 h5' (HMw w5 b35) (lt_pw (mul_pw x0 lx lx) (by omega)) hM0 hM9
        clear b34 b5 h5' hR4
        go_wp2_with fail
        refine h6.mono ?_
        rintro e w6 ⟨q6, r6, rfl, ⟨Q6, R6, _, hR6, eD6, p6, s6⟩, b6⟩
        clear h6
        rw [(divides_eq eD6 p6 s6).2] at hR6
        have b36 : Below wr.heap.size wr w6 := b35.trans (b6.mono b35.size)
        have HR : Hid (∃ o x, Num w6 r4 o ∧ Num w6 r6 x ∧ 0 ≤ o ∧ o < M ∧ 0 ≤ x ∧ x < M ∧ o * x ^ h2 % M = E ∧ Below w.heap.size w w6) :=
          ⟨_, _, hR5.below b6, hR6, Int.emod_nonneg _ (by omega), Int.emod_lt_of_pos _ hM0, Int.emod_nonneg _ (by omega), Int.emod_lt_of_pos _ hM0, by rw [pw_odd, show 2 * h2 + 1 = k by omega]; exact HEV.out, HBw w6 b36⟩
        clear HMw HBw b35 b6 b36 hR5 hR6 eD6 p6 s6 HX
        go_wp2
        go_roundw
        case rel => exact ⟨h2, by omega, by (first | rfl | rw [ed] | rw [etd]), HR.out⟩
        case measure => simp [intOf] <;> omega
      · have hbI : ((k : Int) % 2 == 1) = false := by simp; omega
        have h5 := rmul_num u11 u11 x x wr hx hx (lt_pw lx (by omega)) (lt_pw lx (by omega))
        have HX : Hid (Num wr u9 o) := ho
        have HEV : Hid (o * x ^ k % M = E) := hev
        clear HI ho hx hev
        go_wp2_with fail
        refine h5.mono ?_
        rintro e w5 ⟨r5, rfl, h5', b5⟩
        clear h5
        have h6 := rdiv_num r5 _ (x * x) M w5 h5' (HMw w5 b5) (lt_pw (mul_pw x0 lx lx) (by omega)) hM0 hM9
        clear h5'
        go_wp2_with fail
        refine h6.mono ?_
        rintro e w6 ⟨q6, r6, rfl, ⟨Q6, R6, _, hR6, eD6, p6, s6⟩, b6⟩
        clear h6
        rw [(divides_eq eD6 p6 s6).2] at hR6
        have b36 : Below wr.heap.size wr w6 := b5.trans (b6.mono b5.size)
        have HR : Hid (∃ o x, Num w6 u9 o ∧ Num w6 r6 x ∧ 0 ≤ o ∧ o < M ∧ 0 ≤ x ∧ x < M ∧ o * x ^ h2 % M = E ∧ Below w.heap.size w w6) :=
          ⟨_, _, HX.out.below b36, hR6, o0, o1, Int.emod_nonneg _ (by omega), Int.emod_lt_of_pos _ hM0, by rw [pw_even, show 2 * h2 = k by omega]; exact HEV.out, HBw w6 b36⟩
        clear HMw HBw b5 b6 b36 hR6 eD6 p6 s6 HX
        go_wp2
        go_roundw
        case rel => exact ⟨h2, by omega, by (first | rfl | rw [ed] | rw [etd]), HR.out⟩
        case measure => simp [intOf] <;> omega
    · have e : k = 0 := by omega
      subst e
      have HE : Hid (Num wr u9 E) := by
        rw [Int.pow_zero, Int.mul_one, Int.emod_eq_of_lt o0 o1] at hev
        show Num wr u9 E
        rw [← hev]; exact ho
      clear HI ho hx hev
      go_wp2
      go_ret2
      exact ⟨_, rfl, HE.out, hb⟩
end Go.Proofs.YtfhapeinfhjihaaGreatDoor
