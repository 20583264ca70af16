/-
  What ref.Check, ref.Trim, ref.compare and ref.Copy answer. Conditions: none but that the limbs lie there.
-/
import Derived.Test.YtpgdabpohbmodaaDoorNC
namespace Go.Proofs.YtpgdabpohbmodaaDoor
open Go.RowKit

/-- A slice whose limbs lie in blocks from B on. -/
def From (B : Nat) (v : Value) : Prop := ∀ a n c, v = .slice (some a) n c → B ≤ a.block
theorem from_own {w : World} {B n : Nat} {v : Value} {xs : List Value} (h : w.ownsRow B 39 1 v n xs) : From B v := by
  intro a k c e
  rcases h.2 with ⟨rfl, _⟩ | ⟨g, cap, cur, rfl, hb, _⟩
  · simp at e
  · simp at e
    rw [← e.1]; exact hb
theorem from_nil (B : Nat) : From B (.slice none 0 0) := fun a n c e => by simp at e
theorem Num.set {w : World} {v : Value} {N : Int} {B : Nat} (h : Num w v N) (hf : From B v) (p : Addr) (hp : p.block < B) (u : Value) : Num (w.setCell p u) v N := by
  obtain ⟨n, f, hr, hc, hv⟩ := h
  refine ⟨n, f, ?_, hc, hv⟩
  rcases hr with hr | ⟨b, off, cap, rfl, h1, h2, hL⟩
  · exact .inl hr
  · have := hf _ _ _ rfl
    have hne : b ≠ p.block := by simp at this; omega
    refine .inr ⟨b, off, cap, rfl, h1, h2, ⟨fun i hi => ?_, hL.lo, hL.hi⟩⟩
    rw [← hL.cell i hi]
    exact World.cell?_of_block (Below.heap_setCell w p u b hne)
set_option maxHeartbeats 400000 in
theorem rcheck_ok (v : Value) (n : Nat) (f : Nat → Int) (w : World) (hR : Row w v n f) (hC : Can n f) :
    Calls Tryd.prog 11 #[v] w fun e w' => e = .returned (.int .i64 0) ∧ w = w' := by
  by_cases h : 0 < n
  · obtain ⟨b, off, cap, rfl, hc, hm, hL⟩ := hR.lies (by omega)
    unfold maxLen at hm
    have c := hL.cell (n - 1) (by omega)
    have z := hC.2 h
    have hz : (f (n - 1) == 0) = false := by simpa using z
    have ez : ((n : Int) - 1).toNat = n - 1 := by omega
    have hI : (0 : Int) < (n : Int) := by omega
    have HL : Hid (Lies w b off n f) := hL
    have HC : Hid (Limbs n f) := hC.1
    obtain ⟨x, hx⟩ : ∃ x, f (n - 1) = x := ⟨_, rfl⟩
    rw [hx] at c hz
    clear hR hL hC z hx
    go_enter Tryd.func11, Tryd.ntmps11
    go_wp2
    go_loop [3] (fun i => ∃ k : Nat, k ≤ n ∧ i = .int .i64 k) (fun i => n - (intOf i).toNat)
    case atStart => exact ⟨0, Nat.zero_le _, rfl⟩
    case round =>
      obtain ⟨k, hk, rfl⟩ := hrel
      by_cases hlt : k < n
      · have c1 := HL.out.cell k hlt
        have b1 := HC.out k hlt
        have hkI : (k : Int) < (n : Int) := by omega
        generalize f k = y at *
        go_wp2
        go_round
        case rel => exact ⟨k + 1, by omega, by go_num⟩
        case measure => simp [intOf]; omega
      · have e : k = n := by omega
        subst e
        go_wp2
        go_ret
        exact ⟨rfl, rfl⟩
  · obtain ⟨a, cap, rfl, hm⟩ := hR.shape
    have e : n = 0 := by omega
    subst e
    clear hR hC h
    go_enter Tryd.func11, Tryd.ntmps11
    go_wp2
    refine wp_loop_rounds 1 ?_
    rw [rounds_succ]
    go_wp2
    go_ret
    exact ⟨rfl, rfl⟩

set_option maxHeartbeats 400000 in
theorem rcheck_bad (v : Value) (n : Nat) (f : Nat → Int) (w : World) (hR : Row w v n f) (hC : ¬ Can n f) :
    Calls Tryd.prog 11 #[v] w fun e w' => e = .returned (.int .i64 2) ∧ w = w' := by
  have h : 0 < n := by
    by_cases h : 0 < n
    · exact h
    · exact absurd ⟨fun i hi => absurd hi (by omega), fun h' => absurd h' h⟩ hC
  obtain ⟨b, off, cap, rfl, hc, hm, hL⟩ := hR.lies (by omega)
  unfold maxLen at hm
  have HL : Hid (Lies w b off n f) := hL
  have HC : Hid (¬ Can n f) := hC
  have hI : (0 : Int) < (n : Int) := by omega
  have ez : ((n : Int) - 1).toNat = n - 1 := by omega
  clear hR hL hC
  go_enter Tryd.func11, Tryd.ntmps11
  go_wp2
  go_loop [3] (fun i => ∃ k : Nat, k ≤ n ∧ i = .int .i64 k ∧ Hid (Limbs k f)) (fun i => n - (intOf i).toNat)
  case atStart => exact ⟨0, Nat.zero_le _, rfl, fun i hi => absurd hi (by omega)⟩
  case round =>
    obtain ⟨k, hk, rfl, HK⟩ := hrel
    by_cases hlt : k < n
    · have c1 := HL.out.cell k hlt
      have l1 := HL.out.lo k
      have hkI : (k : Int) < (n : Int) := by omega
      by_cases b1 : f k < 1000000000
      · have HK2 : Hid (Limbs (k + 1) f) := fun i hi => by
          by_cases e : i = k
          · rw [e]; exact ⟨l1, b1⟩
          · exact HK.out i (by omega)
        generalize f k = y at *
        go_wp2
        go_round
        case rel => exact ⟨k + 1, by omega, by go_num, HK2⟩
        case measure => simp [intOf]; omega
      · generalize f k = y at *
        go_wp2
        go_ret
        exact ⟨rfl, rfl⟩
    · have e : k = n := by omega
      subst e
      have c := HL.out.cell (k - 1) (by omega)
      have z : f (k - 1) = 0 := by
        by_cases z : f (k - 1) = 0
        · exact z
        · exact absurd ⟨HK.out, fun _ => z⟩ HC.out
      rw [z] at c
      clear HK z
      go_wp2
      go_ret
      exact ⟨rfl, rfl⟩

set_option maxHeartbeats 400000 in
theorem rtrim_any (v : Value) (n : Nat) (f : Nat → Int) (w : World) (hR : Row w v n f) (hn : n ≤ 35184372088832) :
    Calls Tryd.prog 16 #[v] w fun e w' => ∃ r, e = .returned r ∧ (∃ m f', Row w' r m f' ∧ (∀ i, i < m → f' i = f i) ∧ Trims n f m) ∧ From w.heap.size r ∧ Below w.heap.size w w' := by
  by_cases h : 0 < n
  · obtain ⟨b, off, cap, rfl, hc, hm, hL⟩ := hR.lies (by omega)
    have hm' := hm
    unfold maxLen at hm
    have HL : Hid (Lies w b off n f) := hL
    clear hR hL
    go_enter Tryd.func16, Tryd.ntmps16
    go_wp2
    go_loop [3] (fun t => ∃ m : Nat, m ≤ n ∧ t = .int .i64 m ∧ Hid (∀ i, m ≤ i → i < n → f i = 0)) (fun t => (intOf t).toNat)
    case atStart => exact ⟨n, Nat.le_refl _, rfl, fun i h1 h2 => absurd h1 (by omega)⟩
    case round =>
      obtain ⟨m, hk, rfl, HZ⟩ := hrel
      by_cases hlt : 0 < m
      · have c1 := HL.out.cell (m - 1) (by omega)
        have ez : ((m : Int) - 1).toNat = m - 1 := by omega
        have hI : (0 : Int) < (m : Int) := by omega
        by_cases z : f (m - 1) = 0
        · have HZ2 : Hid (∀ i, m - 1 ≤ i → i < n → f i = 0) := fun i h1 h2 => by
            by_cases e : i = m - 1
            · rw [e]; exact z
            · exact HZ.out i (by omega) h2
          rw [z] at c1
          clear z HZ
          go_wp2
          go_round
          case rel => exact ⟨m - 1, by omega, by go_num, HZ2⟩
          case measure => simp [intOf]; omega
        · have HT : Hid (Trims n f m) := ⟨hk, HZ.out, fun _ => z⟩
          have hz : (f (m - 1) == 0) = false := by simpa using z
          generalize f (m - 1) = y at *
          clear HZ z
          have hA : Row (w.alloc (.cells #[] 39)) (.slice (some ⟨b, off, none⟩) m cap) m f := Row.alloc (.inr ⟨b, off, cap, rfl, by omega, hm', ⟨fun i hi => HL.out.cell i (by omega), HL.out.lo, HL.out.hi⟩⟩) _
          have hbl : Below w.heap.size w (w.alloc (.cells #[] 39)) := one_below w _
          have hok : (w.alloc (.cells #[] 39)).ownsRow w.heap.size 39 1 (.slice (some ⟨w.heap.size, 0, none⟩) 0 0) 0 [] := World.ownsRow_made w #[] 0 (Nat.le_refl _) (by simp [maxLen]) rfl
          go_wp2_with (at_builtin; refine wpList_append_row rfl (.tmp 18) (.tmp 21) rfl w.heap.size _ _ _ rfl hok _ m f rfl hA (by omega) (by simp) ?_)
          · intro v' w2 hown2 hgrow2
            have hb2 : Below w.heap.size w w2 := hbl.grown hgrow2 (by simp) (fun j hj => (hok.lt j hj).1)
            have hr : Row w2 v' m f := row_own HL.out.lo HL.out.hi (by simpa using hown2)
            have hfr : From w.heap.size v' := from_own hown2
            clear hA hok hbl hgrow2 hown2
            go_wp2
            go_ret
            exact ⟨_, rfl, ⟨m, f, hr, fun _ _ => rfl, HT.out⟩, hfr, hb2⟩
      · have e : m = 0 := by omega
        subst e
        have HT : Hid (Trims n f 0) := ⟨hk, HZ.out, fun h => absurd h (by omega)⟩
        clear HZ hlt
        have hA : Row (w.alloc (.cells #[] 39)) (.slice (some ⟨b, off, none⟩) 0 cap) 0 f := Row.alloc (.inl ⟨rfl, _, cap, rfl, fun h => by cases h⟩) _
        have hbl : Below w.heap.size w (w.alloc (.cells #[] 39)) := one_below w _
        have hok : (w.alloc (.cells #[] 39)).ownsRow w.heap.size 39 1 (.slice (some ⟨w.heap.size, 0, none⟩) 0 0) 0 [] := World.ownsRow_made w #[] 0 (Nat.le_refl _) (by simp [maxLen]) rfl
        go_wp2_with (at_builtin; refine wpList_append_row rfl (.tmp 18) (.tmp 21) rfl w.heap.size _ _ _ rfl hok _ 0 f rfl hA (by omega) (by simp) ?_)
        · intro v' w2 hown2 hgrow2
          have hb2 : Below w.heap.size w w2 := hbl.grown hgrow2 (by simp) (fun j hj => (hok.lt j hj).1)
          have hr : Row w2 v' 0 f := row_own HL.out.lo HL.out.hi (by simpa using hown2)
          have hfr : From w.heap.size v' := from_own hown2
          clear hA hok hbl hgrow2 hown2
          go_wp2
          go_ret
          exact ⟨_, rfl, ⟨0, f, hr, fun _ _ => rfl, HT.out⟩, hfr, hb2⟩
  · obtain ⟨a, cap, rfl, hm⟩ := hR.shape
    have e : n = 0 := by omega
    subst e
    have HT : Hid (Trims 0 f 0) := ⟨Nat.le_refl _, fun i _ h => absurd h (by omega), fun h => absurd h (by omega)⟩
    obtain ⟨f', hR', he', lo', up'⟩ := hR.bounded
    have hA : Row (w.alloc (.cells #[] 39)) (.slice a 0 cap) 0 f' := hR'.alloc _
    have hbl : Below w.heap.size w (w.alloc (.cells #[] 39)) := one_below w _
    have hok : (w.alloc (.cells #[] 39)).ownsRow w.heap.size 39 1 (.slice (some ⟨w.heap.size, 0, none⟩) 0 0) 0 [] := World.ownsRow_made w #[] 0 (Nat.le_refl _) (by simp [maxLen]) rfl
    clear hR h hR'
    go_enter Tryd.func16, Tryd.ntmps16
    go_wp2
    refine wp_loop_rounds 1 ?_
    rw [rounds_succ]
    go_wp2_with (at_builtin; refine wpList_append_row rfl (.tmp 18) (.tmp 21) rfl w.heap.size _ _ _ rfl hok _ 0 f' rfl hA (by omega) (by simp) ?_)
    · intro v' w2 hown2 hgrow2
      have hb2 : Below w.heap.size w w2 := hbl.grown hgrow2 (by simp) (fun j hj => (hok.lt j hj).1)
      have hr : Row w2 v' 0 f' := row_own lo' up' (by simpa using hown2)
      have hfr : From w.heap.size v' := from_own hown2
      clear hA hok hbl hgrow2 hown2
      go_wp2
      go_ret
      exact ⟨_, rfl, ⟨0, f', hr, fun i hi => absurd hi (by omega), HT.out⟩, hfr, hb2⟩

/-- What ref.Trim leaves, as a number. -/
theorem rnum_of_trim {w : World} {r : Value} {N : Nat} {g : Nat → Int} {V : Int} (hb : Limbs N g) (h : ∃ m f', Row w r m f' ∧ (∀ i, i < m → f' i = g i) ∧ Trims N g m) (hV : val g N = V) : Num w r V := by
  obtain ⟨m, f', hr, he, ht⟩ := h
  obtain ⟨c1, c2⟩ := ht.can hb
  refine ⟨m, f', hr, ⟨fun i hi => by rw [he i hi]; exact c1.1 i hi, fun h => by rw [he (m - 1) (by omega)]; exact c1.2 h⟩, by rw [val_congr he, c2, hV]⟩
end Go.Proofs.YtpgdabpohbmodaaDoor
