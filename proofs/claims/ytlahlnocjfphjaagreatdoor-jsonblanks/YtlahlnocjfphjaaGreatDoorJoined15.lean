/-
  What lex.pair and lex.point answer: the code point that is escaped, as UTF-8, or where it is bad. Conditions: the bytes lie in memory, at most 2^48 of them; the table of greatest code points holds its four numbers.
-/
import Derived.Test.YtlahlnocjfphjaaGreatDoorJoined14
namespace Go.Proofs.YtlahlnocjfphjaaGreatDoor.Lx
open Go.RowKit
attribute [local go_sem] setCell_drewN alloc_drewN

theorem unitF_low {l : List UInt8} (k : Nat) : ∀ {i val : Nat} {r : Nat × Nat}, unitF l true (k + 1) i val = .ok r → 56320 ≤ r.1 ∧ r.1 ≤ 57343 := by
  induction k with
  | zero =>
    intro i val r h
    simp only [unitF] at h
    split at h
    · rename_i g
      cases h
      have g2 : stepU true val (4 * 0) (bx l i) = true := by simp [hasAt] at g; exact g.2
      have e := valU_int val (bx l i)
      simp [stepU, wantB, lowB] at g2
      constructor
      · show 56320 ≤ valU val (bx l i); omega
      · show valU val (bx l i) ≤ 57343; omega
    · cases h
  | succ k ih =>
    intro i val r h
    simp only [unitF] at h
    split at h
    · exact ih h
    · cases h
theorem unitF_not {l : List UInt8} (k : Nat) : ∀ {i val : Nat} {r : Nat × Nat}, unitF l false (k + 1) i val = .ok r → r.1 < 56320 ∨ 57343 < r.1 := by
  induction k with
  | zero =>
    intro i val r h
    simp only [unitF] at h
    split at h
    · rename_i g
      cases h
      have g2 : stepU false val (4 * 0) (bx l i) = true := by simp [hasAt] at g; exact g.2
      have e := valU_int val (bx l i)
      simp [stepU, wantB, notLowB] at g2
      show valU val (bx l i) < 56320 ∨ 57343 < valU val (bx l i)
      omega
    · cases h
  | succ k ih =>
    intro i val r h
    simp only [unitF] at h
    split at h
    · exact ih h
    · cases h
theorem unitL_low {l : List UInt8} {i : Nat} {r : Nat × Nat} (h : unitL l true i = .ok r) : 56320 ≤ r.1 ∧ r.1 ≤ 57343 := unitF_low 3 h
theorem unitL_not {l : List UInt8} {i : Nat} {r : Nat × Nat} (h : unitL l false i = .ok r) : (r.1 < 56320 ∨ 57343 < r.1) ∧ r.1 < 65536 := ⟨unitF_not 3 h, by have := unitF_lt 4 (m := 1) (by omega) h; simpa using this⟩
theorem unitL_le {l : List UInt8} {low : Bool} {i : Nat} {r : Nat × Nat} (h : unitL l low i = .ok r) : r.2 = i + 4 ∧ (i ≤ l.length → r.2 ≤ l.length) := unitF_le 4 h

def pairL (l : List UInt8) (i : Nat) (high : Nat) : Except Nat (Nat × Nat) :=
  match spelledL l i [92, 117] with
  | .error n => .error n
  | .ok j => match unitL l true j with
    | .error n => .error n
    | .ok r => .ok (65536 + (high - 55296) * 1024 + (r.1 - 56320), r.2)
theorem r_un {a b : Value} (h : a = b) : Ending.returned a = .returned b := by rw [h]

set_option maxRecDepth 100000 in
set_option maxHeartbeats 800000 in
theorem pair_lex (l : List UInt8) (i high : Nat) (v : Value) (w : World) (hT : Tab w) (hB : Byt w v l) (hi : i ≤ l.length) (hm : l.length ≤ 281474976710656) (h1 : 55296 ≤ high) (h2 : high ≤ 56319) :
    Calls Tryz.prog 116 #[v, .int .i64 i, .int .i64 high] w fun r w' => r = .returned (unV (pairL l i high)) ∧ Below w.heap.size w w' := by
  have g1 := spelled_any l i v ⟨#[92, 117]⟩ w hB hi hm (by decide)
  rw [show (ByteArray.mk #[92, 117]).data.toList = [92, 117] from rfl] at g1
  unfold pairL
  cases hs : spelledL l i [92, 117] with
  | error n =>
    rw [hs] at g1
    simp only [plV, errV] at g1
    clear hs
    go_enter Tryz.func116, Tryz.ntmps116
    go_wp2_with (go_at_call 66; refine g1.mono ?_; rintro r w2 ⟨rfl, hb2⟩)
    go_ret3
    exact ⟨rfl, hb2⟩
  | ok j =>
    rw [hs] at g1
    simp only [plV] at g1
    have hj := (spelledL_le _ hs).2 hi
    have g2 := fun w' (hb : Below w.heap.size w w') => unit_true l j v w' (hB.below hb) hj hm
    clear hs
    simp only
    cases hu : unitL l true j with
    | error n =>
      rw [hu] at g2
      simp only [unV, errV] at g2
      clear hu
      go_enter Tryz.func116, Tryz.ntmps116
      go_wp2_with (first | (go_at_call 66; refine g1.mono ?_; rintro r w2 ⟨rfl, hb2⟩) | (go_at_call 114; refine (g2 _ hb2).mono ?_; rintro r w3 ⟨rfl, hb3⟩))
      go_ret3
      exact ⟨rfl, bl_t hb2 hb3⟩
    | ok r =>
      rw [hu] at g2
      simp only [unV] at g2
      have hr := unitL_low hu
      obtain ⟨lo, e⟩ := r
      simp only at g2 hr ⊢
      have g3 := fun w' (hb : Below w.heap.size w w') => pair_ok high lo w' (hT.below hb) (by omega) (by omega) (by omega) (by omega)
      have HR : Hid ((65536 + ((high : Int) - 55296) * 1024 + ((lo : Int) - 56320)) = ((65536 + (high - 55296) * 1024 + (lo - 56320) : Nat) : Int)) := by show _ = _; omega
      clear hu hr h1 h2
      go_enter Tryz.func116, Tryz.ntmps116
      go_wp2_with (first | (go_at_call 66; refine g1.mono ?_; rintro r w2 ⟨rfl, hb2⟩) | (go_at_call 114; refine (g2 _ hb2).mono ?_; rintro r w3 ⟨rfl, hb3⟩) | (go_at_call 126; refine (g3 _ (bl_t hb2 hb3)).mono ?_; rintro r w4 ⟨rfl, rfl⟩))
      go_ret3
      exact ⟨r_un (by rw [HR.out]; rfl), bl_t hb2 hb3⟩

/-- A code point's bytes. -/
def encL (p : Nat) : List UInt8 := (List.range (encN p)).map fun i => UInt8.ofNat (encF p i).toNat
theorem encL_length (p : Nat) : (encL p).length = encN p := by simp [encL]
theorem encN_le (p : Int) : 1 ≤ encN p ∧ encN p ≤ 4 := by
  unfold encN; repeat' split
  all_goals omega
theorem bx_enc (p : Nat) (hp : p ≤ 1114111) (i : Nat) (hi : i < encN p) : bx (encL p) i = encF p i := by
  have a := encF_lo p (by omega) (by omega) i
  have b := encF_hi p (by omega) (by omega) i
  simp [bx, encL, hi]
  omega
theorem Row.congr {w : World} {v : Value} {n : Nat} {f g : Nat → Int} (h : Row w v n f) (lo : ∀ i, 0 ≤ g i) (hi : ∀ i, g i < 256) (e : ∀ i, i < n → f i = g i) : Row w v n g := by
  rcases h with h | ⟨b, off, cap, rfl, hc, hm, hL⟩
  · exact .inl h
  · exact .inr ⟨b, off, cap, rfl, hc, hm, ⟨fun i hi => by rw [hL.cell i hi, e i hi], lo, hi⟩⟩
/-- utf.Put(nil, p). -/
theorem put_nil (p : Nat) (w : World) (hT : Tab w) (hp : p < 55296 ∨ 57343 < p) (h1 : p ≤ 1114111) :
    Calls Tryz.prog 117 #[.slice none 0 0, .int .i64 p] w fun e w' => ∃ r, e = .returned (.tuple #[r, .int .i64 0]) ∧ Byt w' r (encL p) ∧ Below w.heap.size w w' := by
  have h := put_ok (.slice none 0 0) 0 (fun _ => 0) (p : Int) w hT (by simp [ptB]; omega) (.inl ⟨rfl, none, 0, rfl, fun _ => rfl⟩) (by omega)
  unfold PutOk at h
  refine h.mono ?_
  rintro e w' ⟨r, rfl, ho, hb⟩
  refine ⟨r, rfl, ?_, hb⟩
  have e0 : catF 0 (fun _ => 0) (encF (p : Int)) = encF (p : Int) := by funext i; simp [catF]
  rw [e0, Nat.zero_add] at ho
  have hR := Row.of_own (encF_lo p (by omega) (by omega)) (encF_hi p (by omega) (by omega)) ho
  unfold Byt
  rw [encL_length]
  exact hR.congr (bx_lo _) (bx_hi _) (fun i hi => (bx_enc p h1 i hi).symm)

/-- Bytes and a place, or the error. -/
abbrev Bp := Except Nat (List UInt8 × Nat)
def bpPost (r : Bp) (e : Ending) (w : World) : Prop :=
  match r with
  | .ok (t, k) => ∃ v', e = .returned (.tuple #[v', .int .i64 k, .nilIface]) ∧ Byt w v' t
  | .error n => e = .returned (.tuple #[.slice none 0 0, .int .i64 0, errV n])
def pointL (l : List UInt8) (i : Nat) : Bp :=
  match unitL l false i with
  | .error n => .error n
  | .ok r => if 55296 ≤ r.1 ∧ r.1 ≤ 56319 then (match pairL l r.2 r.1 with | .error n => .error n | .ok q => .ok (encL q.1, q.2)) else .ok (encL r.1, r.2)
set_option maxRecDepth 100000 in
theorem pairL_le {l : List UInt8} {i high : Nat} {r : Nat × Nat} (h : pairL l i high = .ok r) (h1 : 55296 ≤ high) (h2 : high ≤ 56319) : 65536 ≤ r.1 ∧ r.1 ≤ 1114111 ∧ r.2 = i + 6 ∧ (i ≤ l.length → r.2 ≤ l.length) := by
  unfold pairL at h
  cases hs : spelledL l i [92, 117] with
  | error n => rw [hs] at h; cases h
  | ok j =>
    rw [hs] at h
    simp only at h
    have a := spelledL_le _ hs
    cases hu : unitL l true j with
    | error n => rw [hu] at h; cases h
    | ok q =>
      rw [hu] at h
      have b := unitL_le hu
      have c := unitL_low hu
      have h' := Except.ok.inj h
      subst h'
      simp at a ⊢
      refine ⟨by omega, by omega, by omega, fun hi => b.2 (a.2 hi)⟩

set_option maxRecDepth 100000 in
set_option maxHeartbeats 12800000 in
theorem point_any (l : List UInt8) (i : Nat) (v : Value) (w : World) (hT : Tab w) (hB : Byt w v l) (hi : i ≤ l.length) (hm : l.length ≤ 281474976710656) :
    Calls Tryz.prog 98 #[v, .int .i64 i] w fun r w' => bpPost (pointL l i) r w' ∧ Below w.heap.size w w' := by
  have g1 := unit_false l i v w hB hi hm
  unfold pointL
  cases hu : unitL l false i with
  | error n =>
    rw [hu] at g1
    simp only [unV, errV] at g1
    clear hu
    go_enter Tryz.func98, Tryz.ntmps98
    go_wp2_with (go_at_call 114; refine g1.mono ?_; rintro r w2 ⟨rfl, hb2⟩)
    go_ret3
    exact ⟨rfl, hb2⟩
  | ok r =>
    rw [hu] at g1
    simp only [unV] at g1
    have hr := unitL_not hu
    have hl := unitL_le hu
    obtain ⟨p, j⟩ := r
    simp only at g1 hr hl ⊢
    clear hu
    by_cases hh : 55296 ≤ p ∧ p ≤ 56319
    · rw [if_pos hh]
      have g2 := fun w' (hb : Below w.heap.size w w') => pair_lex l j p v w' (hT.below hb) (hB.below hb) (hl.2 hi) hm hh.1 hh.2
      obtain ⟨a1, a2⟩ := hh
      have a1I : (55296 : Int) ≤ (p : Int) := by omega
      have a2I : (p : Int) ≤ 56319 := by omega
      cases hq : pairL l j p with
      | error n =>
        rw [hq] at g2
        simp only [unV, errV] at g2
        clear hq a1 a2 hr hl
        go_enter Tryz.func98, Tryz.ntmps98
        go_wp2_with (first | (go_at_call 114; refine g1.mono ?_; rintro r w2 ⟨rfl, hb2⟩) | (go_at_call 116; refine (g2 _ hb2).mono ?_; rintro r w3 ⟨rfl, hb3⟩))
        go_ret3
        exact ⟨rfl, bl_t hb2 hb3⟩
      | ok q =>
        rw [hq] at g2
        simp only [unV] at g2
        have b := pairL_le hq a1 a2
        obtain ⟨q, e⟩ := q
        simp only at g2 b ⊢
        have g3 := fun w' (hb : Below w.heap.size w w') => put_nil q w' (hT.below hb) (by omega) (by omega)
        clear hq a1 a2 hr hl b
        go_enter Tryz.func98, Tryz.ntmps98
        go_wp2_with (first | (go_at_call 114; refine g1.mono ?_; rintro r w2 ⟨rfl, hb2⟩) | (go_at_call 116; refine (g2 _ hb2).mono ?_; rintro r w3 ⟨rfl, hb3⟩) | (go_at_call 117; refine (g3 _ (bl_t hb2 hb3)).mono ?_; rintro r w4 ⟨v4, rfl, hv4, hb4⟩))
        go_ret3
        exact ⟨⟨v4, rfl, hv4⟩, bl_t (bl_t hb2 hb3) hb4⟩
    · rw [if_neg hh]
      have g3 := fun w' (hb : Below w.heap.size w w') => put_nil p w' (hT.below hb) (by omega) (by omega)
      by_cases a1 : 55296 ≤ p
      · have a1I : (55296 : Int) ≤ (p : Int) := by omega
        have a2I : (56319 : Int) < (p : Int) := by omega
        have hd : decide ((p : Int) ≤ 56319) = false := decide_eq_false (by omega)
        clear hh hr hl a1
        go_enter Tryz.func98, Tryz.ntmps98
        go_wp2_with (first | (go_at_call 114; refine g1.mono ?_; rintro r w2 ⟨rfl, hb2⟩) | (go_at_call 117; refine (g3 _ hb2).mono ?_; rintro r w4 ⟨v4, rfl, hv4, hb4⟩))
        go_ret3
        exact ⟨⟨v4, rfl, hv4⟩, bl_t hb2 hb4⟩
      · have a1I : (p : Int) < (55296 : Int) := by omega
        have hd : decide ((55296 : Int) ≤ (p : Int)) = false := decide_eq_false (by omega)
        clear hh hr hl a1
        go_enter Tryz.func98, Tryz.ntmps98
        go_wp2_with (first | (go_at_call 114; refine g1.mono ?_; rintro r w2 ⟨rfl, hb2⟩) | (go_at_call 117; refine (g3 _ hb2).mono ?_; rintro r w4 ⟨v4, rfl, hv4, hb4⟩))
        go_ret3
        exact ⟨⟨v4, rfl, hv4⟩, bl_t hb2 hb4⟩
end Go.Proofs.YtlahlnocjfphjaaGreatDoor.Lx
