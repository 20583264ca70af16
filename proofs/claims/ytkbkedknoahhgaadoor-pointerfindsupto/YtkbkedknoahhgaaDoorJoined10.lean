/-
  What pointer.hexDigit, pointer.tildeMeaning and pointer.percentMeaning answer: the byte that a code means, or that it means none. No condition.
-/
import Derived.Test.YtkbkedknoahhgaaDoorJoined7
namespace Go.Proofs.YtkbkedknoahhgaaDoor
open Go.RowKit
attribute [local go_sem] setCell_drewN alloc_drewN

/-- A digit of 16. -/
def hexV (c : Int) : Option Int := if wi c 48 57 = true then some (c - 48) else if wi c 65 70 = true then some (c - 55) else if wi c 97 102 = true then some (c - 87) else none
theorem wi_iff (c a b : Int) : wi c a b = true ↔ a ≤ c ∧ c ≤ b := by simp [wi]
theorem hexV_bd {c x : Int} (h : hexV c = some x) : 0 ≤ x ∧ x < 16 := by
  unfold hexV at h
  split at h
  · rename_i g; have := (wi_iff _ _ _).1 g; injection h; omega
  · split at h
    · rename_i g; have := (wi_iff _ _ _).1 g; injection h; omega
    · split at h
      · rename_i g; have := (wi_iff _ _ _).1 g; injection h; omega
      · cases h
def hxR : Option Int → Value
  | some x => .tuple #[.int .u8 x, .bool true]
  | none => .tuple #[.int .u8 0, .bool false]

set_option maxHeartbeats 800000 in
theorem hexDigit_any (c : Int) (w : World) (h0 : 0 ≤ c) (h9 : c < 256) :
    Calls Tryd.prog 53 #[.int .u8 c] w fun e w' => e = .returned (hxR (hexV c)) ∧ w' = w := by
  cases h1 : wi c 48 57
  · cases h2 : wi c 65 70
    · cases h3 : wi c 97 102
      · have HE : Hid (hexV c = none) := by show _ = _; unfold hexV; rw [h1, h2, h3]; rfl
        go_enter Tryd.func53, Tryd.ntmps53
        go_wp2_with first | (go_at_call 64; refine (within_any c _ _ _).mono ?_; rintro e w' ⟨rfl, rfl⟩; first | rw [h2] | rw [h3]) | (go_at_call 55; refine (isDigit_any c _).mono ?_; rintro e w' ⟨rfl, rfl⟩; rw [h1])
        go_ret2
        exact ⟨by rw [HE.out]; rfl, rfl⟩
      · have HE : Hid (hexV c = some (c - 87)) := by show _ = _; unfold hexV; rw [h1, h2, h3]; rfl
        have hb := (wi_iff _ _ _).1 h3
        have hb1 := hb.1
        have hb2 := hb.2
        clear hb
        go_enter Tryd.func53, Tryd.ntmps53
        go_wp2_with first | (go_at_call 64; refine (within_any c _ _ _).mono ?_; rintro e w' ⟨rfl, rfl⟩; first | rw [h2] | rw [h3]) | (go_at_call 55; refine (isDigit_any c _).mono ?_; rintro e w' ⟨rfl, rfl⟩; rw [h1])
        go_ret2
        refine ⟨?_, rfl⟩
        rw [HE.out]
        have e : c - 97 + 10 = c - 87 := by omega
        simp only [hxR, ← e]
        rfl
    · have HE : Hid (hexV c = some (c - 55)) := by show _ = _; unfold hexV; rw [h1, h2]; rfl
      have hb := (wi_iff _ _ _).1 h2
      have hb1 := hb.1
      have hb2 := hb.2
      clear hb
      go_enter Tryd.func53, Tryd.ntmps53
      go_wp2_with first | (go_at_call 64; refine (within_any c _ _ _).mono ?_; rintro e w' ⟨rfl, rfl⟩; rw [h2]) | (go_at_call 55; refine (isDigit_any c _).mono ?_; rintro e w' ⟨rfl, rfl⟩; rw [h1])
      go_ret2
      refine ⟨?_, rfl⟩
      rw [HE.out]
      have e : c - 65 + 10 = c - 55 := by omega
      simp only [hxR, ← e]
      rfl
  · have HE : Hid (hexV c = some (c - 48)) := by show _ = _; unfold hexV; rw [h1]; rfl
    have hb := (wi_iff _ _ _).1 h1
    have hb1 := hb.1
    have hb2 := hb.2
    clear hb
    go_enter Tryd.func53, Tryd.ntmps53
    go_wp2_with (go_at_call 55; refine (isDigit_any c _).mono ?_; rintro e w' ⟨rfl, rfl⟩; rw [h1])
    go_ret2
    exact ⟨by rw [HE.out]; rfl, rfl⟩

theorem eq_bytes (s t : ByteArray) : (s.toList == t.toList) = decide (s = t) := by
  rw [← beq_toListBytes]
  obtain ⟨⟨x⟩⟩ := s
  obtain ⟨⟨y⟩⟩ := t
  show ((⟨x⟩ : Array UInt8) == ⟨y⟩) = _
  by_cases h : x = y
  · subst h; simp
  · rw [decide_eq_false (fun e => h (by simpa using e))]; simpa using h
/-- The byte that a code means. -/
def mT : List UInt8 → Option UInt8
  | [48] => some 126
  | [49] => some 47
  | _ => none
def mP : List UInt8 → Option UInt8
  | [a, b] => (hexV (a.toNat : Int)).bind fun x => (hexV (b.toNat : Int)).map fun y => UInt8.ofNat (16 * x + y).toNat
  | _ => none
def mV : Option UInt8 → Value
  | some d => .tuple #[.int .u8 (d.toNat : Int), .bool true]
  | none => .tuple #[.int .u8 0, .bool false]

set_option maxHeartbeats 800000 in
theorem tildeMeaning_any (c : UInt8) (w : World) :
    Calls Tryd.prog 32 #[.string (bs [c])] w fun e w' => e = .returned (mV (mT [c])) ∧ w' = w := by
  have e1 : ∀ d : UInt8, ((bs [c]).toList == (bs [d]).toList) = decide (c = d) := fun d => by
    rw [eq_bytes]
    by_cases h : c = d
    · subst h; simp
    · rw [decide_eq_false h, decide_eq_false]; intro e; exact h (by simpa [bs] using e)
  have q1 : ((bs [c]).toList == [48]) = decide (c = 48) := by rw [← e1 48, show (bs [48]).toList = [48] by decide +kernel]
  have q2 : ((bs [c]).toList == [49]) = decide (c = 49) := by rw [← e1 49, show (bs [49]).toList = [49] by decide +kernel]
  clear e1
  by_cases h1 : c = 48
  · rw [decide_eq_true h1] at q1
    have HE : Hid (mT [c] = some 126) := by rw [h1]; exact (rfl : mT [48] = _)
    clear q2 h1
    generalize bs [c] = s at *
    go_enter Tryd.func32, Tryd.ntmps32
    go_wp2
    go_ret2
    exact ⟨by rw [HE.out]; rfl, rfl⟩
  · rw [decide_eq_false h1] at q1
    by_cases h2 : c = 49
    · rw [decide_eq_true h2] at q2
      have HE : Hid (mT [c] = some 47) := by rw [h2]; exact (rfl : mT [49] = _)
      clear h1 h2
      generalize bs [c] = s at *
      go_enter Tryd.func32, Tryd.ntmps32
      go_wp2
      go_ret2
      exact ⟨by rw [HE.out]; rfl, rfl⟩
    · rw [decide_eq_false h2] at q2
      have HE : Hid (mT [c] = none) := by show _ = _; unfold mT; split <;> simp_all
      clear h1 h2
      generalize bs [c] = s at *
      go_enter Tryd.func32, Tryd.ntmps32
      go_wp2
      go_ret2
      exact ⟨by rw [HE.out]; rfl, rfl⟩

theorem or16 : ∀ x y : Fin 16, bits .or .u8 ((x.val : Int) * 16) (y.val : Int) = (x.val : Int) * 16 + (y.val : Int) := by decide +kernel
theorem or16I (x y : Int) (h0 : 0 ≤ x) (h1 : x < 16) (h2 : 0 ≤ y) (h3 : y < 16) : bits .or .u8 (x * 16) y = x * 16 + y := by
  have := or16 ⟨x.toNat, by omega⟩ ⟨y.toNat, by omega⟩
  simp only [Int.toNat_of_nonneg h0, Int.toNat_of_nonneg h2] at this
  exact this

set_option maxHeartbeats 800000 in
theorem percentMeaning_any (a b : UInt8) (w : World) :
    Calls Tryd.prog 33 #[.string (bs [a, b])] w fun e w' => e = .returned (mV (mP [a, b])) ∧ w' = w := by
  have ha := UInt8.toNat_lt a
  have hb := UInt8.toNat_lt b
  have a0 : 0 ≤ (a.toNat : Int) := by omega
  have a1 : (a.toNat : Int) < 256 := by omega
  have b0 : 0 ≤ (b.toNat : Int) := by omega
  have b1 : (b.toNat : Int) < 256 := by omega
  have x0 : ((bs [a, b])[0]'(by rw [bs_size]; simp)).toNat = a.toNat := rfl
  have x1 : ((bs [a, b])[1]'(by rw [bs_size]; simp)).toNat = b.toNat := rfl
  have sz : (bs [a, b]).size = 2 := bs_size _
  cases h1 : hexV (a.toNat : Int) with
  | none =>
    have HE : Hid (mP [a, b] = none) := by show _ = _; simp [mP, h1]
    go_enter Tryd.func33, Tryd.ntmps33
    go_wp2_with fail
    refine (hexDigit_any _ _ a0 a1).mono ?_
    rintro e w' ⟨rfl, rfl⟩
    rw [h1]
    simp only [hxR]
    go_wp2
    go_ret2
    exact ⟨by rw [HE.out]; rfl, rfl⟩
  | some x =>
    obtain ⟨hx0, hx1⟩ := hexV_bd h1
    cases h2 : hexV (b.toNat : Int) with
    | none =>
      have HE : Hid (mP [a, b] = none) := by show _ = _; simp [mP, h1, h2]
      go_enter Tryd.func33, Tryd.ntmps33
      go_wp2_with fail
      refine (hexDigit_any _ _ a0 a1).mono ?_
      rintro e w' ⟨rfl, rfl⟩
      rw [h1]
      simp only [hxR]
      go_wp2_with fail
      refine (hexDigit_any _ _ b0 b1).mono ?_
      rintro e w'' ⟨rfl, rfl⟩
      rw [h2]
      simp only [hxR]
      go_wp2
      go_ret2
      exact ⟨by rw [HE.out]; rfl, rfl⟩
    | some y =>
      obtain ⟨hy0, hy1⟩ := hexV_bd h2
      have HE : Hid (mV (mP [a, b]) = .tuple #[.int .u8 (x * 16 + y), .bool true]) := by
        show _ = _
        simp only [mP, h1, h2, Option.bind_some, Option.map_some, mV]
        have : ((UInt8.ofNat (16 * x + y).toNat).toNat : Int) = x * 16 + y := by
          rw [UInt8.toNat_ofNat_of_lt' (by show _ < 256; omega)]; omega
        rw [this]
      have ho := or16I x y hx0 hx1 hy0 hy1
      go_enter Tryd.func33, Tryd.ntmps33
      go_wp2_with fail
      refine (hexDigit_any _ _ a0 a1).mono ?_
      rintro e w' ⟨rfl, rfl⟩
      rw [h1]
      simp only [hxR]
      go_wp2_with fail
      refine (hexDigit_any _ _ b0 b1).mono ?_
      rintro e w'' ⟨rfl, rfl⟩
      rw [h2]
      simp only [hxR]
      go_wp2
      go_ret2
      exact ⟨by rw [HE.out]; rfl, rfl⟩
end Go.Proofs.YtkbkedknoahhgaaDoor
