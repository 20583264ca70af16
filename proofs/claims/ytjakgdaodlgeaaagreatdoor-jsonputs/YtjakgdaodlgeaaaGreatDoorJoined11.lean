/-
  What lex.pair and lex.point answer: the code point that is escaped, as UTF-8, or where it is bad. Conditions: the bytes lie in memory, at most 2^48 of them; the table of greatest code points holds its four numbers.
  What lex.meaning and lex.escape answer: what an escape stands for, or where it is bad. Conditions: the bytes lie in memory, at most 2^48 of them; the table of greatest code points holds its four numbers.
-/
import Derived.Test.YtjakgdaodlgeaaaGreatDoorJoined10
namespace Go.Proofs.YtjakgdaodlgeaaaGreatDoor.Lx
open Go.RowKit
attribute [local go_sem] setCell_drewN alloc_drewN

theorem unitF_low {l : List UInt8} (k : Nat) : ∀ {i val : Nat} {r : Nat × Nat}, unitF l true (k + 1) i val = .ok r → 56320 ≤ r.1 ∧ r.1 ≤ 57343 := by
 induction k with
 | zero =>
  intro i val r h
  simp only [unitF] at h
  split at h
  ·rename_i g
   cases h
   have g2 : stepU true val (4 * 0) (bx l i) = true := by simp [hasAt] at g; exact g.2
   have e := valU_int val (bx l i)
   simp [stepU, wantB, lowB] at g2
   constructor
   ·show 56320 ≤ valU val (bx l i); omega
   ·show valU val (bx l i) ≤ 57343; omega
  ·cases h
 | succ k ih =>
  intro i val r h
  simp only [unitF] at h
  split at h
  ·exact ih h
  ·cases h
theorem unitF_not {l : List UInt8} (k : Nat) : ∀ {i val : Nat} {r : Nat × Nat}, unitF l false (k + 1) i val = .ok r → r.1 < 56320 ∨ 57343 < r.1 := by
 induction k with
 | zero =>
  intro i val r h
  simp only [unitF] at h
  split at h
  ·rename_i g
   cases h
   have g2 : stepU false val (4 * 0) (bx l i) = true := by simp [hasAt] at g; exact g.2
   have e := valU_int val (bx l i)
   simp [stepU, wantB, notLowB] at g2
   show valU val (bx l i) < 56320 ∨ 57343 < valU val (bx l i)
   omega
  ·cases h
 | succ k ih =>
  intro i val r h
  simp only [unitF] at h
  split at h
  ·exact ih h
  ·cases h
theorem unitL_low {l : List UInt8} {i : Nat} {r : Nat × Nat} (h : unitL l true i = .ok r) : 56320 ≤ r.1 ∧ r.1 ≤ 57343 := unitF_low 3 h
theorem unitL_not {l : List UInt8} {i : Nat} {r : Nat × Nat} (h : unitL l false i = .ok r) : (r.1 < 56320 ∨ 57343 < r.1) ∧ r.1 < 65536 := ⟨unitF_not 3 h, by have := unitF_lt 4 (m := 1) (by omega) h; simpa using this⟩
theorem unitL_le {l : List UInt8} {low : Bool} {i : Nat} {r : Nat × Nat} (h : unitL l low i = .ok r) : r.2 = i + 4 ∧ (i ≤ l.length → r.2 ≤ l.length) := unitF_le 4 h
def pairL (l : List UInt8) (i : Nat) (high : Nat) : Except Nat (Nat × Nat) :=
 match spelledL l i [92, 117] with
 | .error n => .error n
 | .ok j => match unitL l true j with
  | .error n => .error n
  | .ok r => .ok (65536 + (high - 55296) * 1024 + (r.1 - 56320), r.2)
theorem r_un {a b : Value} (h : a = b) : Ending.returned a = .returned b := by rw [h]
set_option maxRecDepth 100000 in
set_option maxHeartbeats 800000 in
theorem pair_lex (l : List UInt8) (i high : Nat) (v : Value) (w : World) (hT : Tab w) (hB : Byt w v l) (hi : i ≤ l.length) (hm : l.length ≤ 281474976710656) (h1 : 55296 ≤ high) (h2 : high ≤ 56319) :
  Calls Tryz.prog 116 #[v, .int .i64 i, .int .i64 high] w fun r w' => r = .returned (unV (pairL l i high)) ∧ Below w.heap.size w w' := by
 have g1 := spelled_any l i v ⟨#[92, 117]⟩ w hB hi hm (by decide)
 rw [show (ByteArray.mk #[92, 117]).data.toList = [92, 117] from rfl] at g1
 unfold pairL
 cases hs : spelledL l i [92, 117] with
 | error n =>
  rw [hs] at g1
  simp only [plV, errV] at g1
  clear hs
  go_enter Tryz.func116, Tryz.ntmps116
  go_wp2_with (go_at_call 66; refine g1.mono ?_; rintro r w2 ⟨rfl, hb2⟩)
  go_ret3
  exact ⟨rfl, hb2⟩
 | ok j =>
  rw [hs] at g1
  simp only [plV] at g1
  have hj := (spelledL_le _ hs).2 hi
  have g2 := fun w' (hb : Below w.heap.size w w') => unit_true l j v w' (hB.below hb) hj hm
  clear hs
  simp only
  cases hu : unitL l true j with
  | error n =>
   rw [hu] at g2
   simp only [unV, errV] at g2
   clear hu
   go_enter Tryz.func116, Tryz.ntmps116
   go_wp2_with (first | (go_at_call 66; refine g1.mono ?_; rintro r w2 ⟨rfl, hb2⟩) | (go_at_call 114; refine (g2 _ hb2).mono ?_; rintro r w3 ⟨rfl, hb3⟩))
   go_ret3
   exact ⟨rfl, bl_t hb2 hb3⟩
  | ok r =>
   rw [hu] at g2
   simp only [unV] at g2
   have hr := unitL_low hu
   obtain ⟨lo, e⟩ := r
   simp only at g2 hr ⊢
   have g3 := fun w' (hb : Below w.heap.size w w') => pair_ok high lo w' (hT.below hb) (by omega) (by omega) (by omega) (by omega)
   have HR : Hid ((65536 + ((high : Int) - 55296) * 1024 + ((lo : Int) - 56320)) = ((65536 + (high - 55296) * 1024 + (lo - 56320) : Nat) : Int)) := by show _ = _; omega
   clear hu hr h1 h2
   go_enter Tryz.func116, Tryz.ntmps116
   go_wp2_with (first | (go_at_call 66; refine g1.mono ?_; rintro r w2 ⟨rfl, hb2⟩) | (go_at_call 114; refine (g2 _ hb2).mono ?_; rintro r w3 ⟨rfl, hb3⟩) | (go_at_call 126; refine (g3 _ (bl_t hb2 hb3)).mono ?_; rintro r w4 ⟨rfl, rfl⟩))
   go_ret3
   exact ⟨r_un (by rw [HR.out]; rfl), bl_t hb2 hb3⟩
def encL (p : Nat) : List UInt8 := (List.range (encN p)).map fun i => UInt8.ofNat (encF p i).toNat
theorem encL_length (p : Nat) : (encL p).length = encN p := by simp [encL]
theorem encN_le (p : Int) : 1 ≤ encN p ∧ encN p ≤ 4 := by
 unfold encN; repeat' split
 all_goals omega
theorem bx_enc (p : Nat) (hp : p ≤ 1114111) (i : Nat) (hi : i < encN p) : bx (encL p) i = encF p i := by
 have a := encF_lo p (by omega) (by omega) i
 have b := encF_hi p (by omega) (by omega) i
 simp [bx, encL, hi]
 omega
theorem Row.congr {w : World} {v : Value} {n : Nat} {f g : Nat → Int} (h : Row w v n f) (lo : ∀ i, 0 ≤ g i) (hi : ∀ i, g i < 256) (e : ∀ i, i < n → f i = g i) : Row w v n g := by
 rcases h with h | ⟨b, off, cap, rfl, hc, hm, hL⟩
 ·exact .inl h
 ·exact .inr ⟨b, off, cap, rfl, hc, hm, ⟨fun i hi => by rw [hL.cell i hi, e i hi], lo, hi⟩⟩
theorem put_nil (p : Nat) (w : World) (hT : Tab w) (hp : p < 55296 ∨ 57343 < p) (h1 : p ≤ 1114111) :
  Calls Tryz.prog 117 #[.slice none 0 0, .int .i64 p] w fun e w' => ∃ r, e = .returned (.tuple #[r, .int .i64 0]) ∧ Byt w' r (encL p) ∧ Below w.heap.size w w' := by
 have h := put_ok (.slice none 0 0) 0 (fun _ => 0) (p : Int) w hT (by simp [ptB]; omega) (.inl ⟨rfl, none, 0, rfl, fun _ => rfl⟩) (by omega)
 unfold PutOk at h
 refine h.mono ?_
 rintro e w' ⟨r, rfl, ho, hb⟩
 refine ⟨r, rfl, ?_, hb⟩
 have e0 : catF 0 (fun _ => 0) (encF (p : Int)) = encF (p : Int) := by funext i; simp [catF]
 rw [e0, Nat.zero_add] at ho
 have hR := Row.of_own (encF_lo p (by omega) (by omega)) (encF_hi p (by omega) (by omega)) ho
 unfold Byt
 rw [encL_length]
 exact hR.congr (bx_lo _) (bx_hi _) (fun i hi => (bx_enc p h1 i hi).symm)
abbrev Bp := Except Nat (List UInt8 × Nat)
def bpPost (r : Bp) (e : Ending) (w : World) : Prop :=
 match r with
 | .ok (t, k) => ∃ v', e = .returned (.tuple #[v', .int .i64 k, .nilIface]) ∧ Byt w v' t
 | .error n => e = .returned (.tuple #[.slice none 0 0, .int .i64 0, errV n])
def pointL (l : List UInt8) (i : Nat) : Bp :=
 match unitL l false i with
 | .error n => .error n
 | .ok r => if 55296 ≤ r.1 ∧ r.1 ≤ 56319 then (match pairL l r.2 r.1 with | .error n => .error n | .ok q => .ok (encL q.1, q.2)) else .ok (encL r.1, r.2)
set_option maxRecDepth 100000 in
theorem pairL_le {l : List UInt8} {i high : Nat} {r : Nat × Nat} (h : pairL l i high = .ok r) (h1 : 55296 ≤ high) (h2 : high ≤ 56319) : 65536 ≤ r.1 ∧ r.1 ≤ 1114111 ∧ r.2 = i + 6 ∧ (i ≤ l.length → r.2 ≤ l.length) := by
 unfold pairL at h
 cases hs : spelledL l i [92, 117] with
 | error n => rw [hs] at h; cases h
 | ok j =>
  rw [hs] at h
  simp only at h
  have a := spelledL_le _ hs
  cases hu : unitL l true j with
  | error n => rw [hu] at h; cases h
  | ok q =>
   rw [hu] at h
   have b := unitL_le hu
   have c := unitL_low hu
   have h' := Except.ok.inj h
   subst h'
   simp at a ⊢
   refine ⟨by omega, by omega, by omega, fun hi => b.2 (a.2 hi)⟩
set_option maxRecDepth 100000 in
set_option maxHeartbeats 12800000 in
theorem point_any (l : List UInt8) (i : Nat) (v : Value) (w : World) (hT : Tab w) (hB : Byt w v l) (hi : i ≤ l.length) (hm : l.length ≤ 281474976710656) :
  Calls Tryz.prog 98 #[v, .int .i64 i] w fun r w' => bpPost (pointL l i) r w' ∧ Below w.heap.size w w' := by
 have g1 := unit_false l i v w hB hi hm
 unfold pointL
 cases hu : unitL l false i with
 | error n =>
  rw [hu] at g1
  simp only [unV, errV] at g1
  clear hu
  go_enter Tryz.func98, Tryz.ntmps98
  go_wp2_with (go_at_call 114; refine g1.mono ?_; rintro r w2 ⟨rfl, hb2⟩)
  go_ret3
  exact ⟨rfl, hb2⟩
 | ok r =>
  rw [hu] at g1
  simp only [unV] at g1
  have hr := unitL_not hu
  have hl := unitL_le hu
  obtain ⟨p, j⟩ := r
  simp only at g1 hr hl ⊢
  clear hu
  by_cases hh : 55296 ≤ p ∧ p ≤ 56319
  ·rw [if_pos hh]
   have g2 := fun w' (hb : Below w.heap.size w w') => pair_lex l j p v w' (hT.below hb) (hB.below hb) (hl.2 hi) hm hh.1 hh.2
   obtain ⟨a1, a2⟩ := hh
   have a1I : (55296 : Int) ≤ (p : Int) := by omega
   have a2I : (p : Int) ≤ 56319 := by omega
   cases hq : pairL l j p with
   | error n =>
    rw [hq] at g2
    simp only [unV, errV] at g2
    clear hq a1 a2 hr hl
    go_enter Tryz.func98, Tryz.ntmps98
    go_wp2_with (first | (go_at_call 114; refine g1.mono ?_; rintro r w2 ⟨rfl, hb2⟩) | (go_at_call 116; refine (g2 _ hb2).mono ?_; rintro r w3 ⟨rfl, hb3⟩))
    go_ret3
    exact ⟨rfl, bl_t hb2 hb3⟩
   | ok q =>
    rw [hq] at g2
    simp only [unV] at g2
    have b := pairL_le hq a1 a2
    obtain ⟨q, e⟩ := q
    simp only at g2 b ⊢
    have g3 := fun w' (hb : Below w.heap.size w w') => put_nil q w' (hT.below hb) (by omega) (by omega)
    clear hq a1 a2 hr hl b
    go_enter Tryz.func98, Tryz.ntmps98
    go_wp2_with (first | (go_at_call 114; refine g1.mono ?_; rintro r w2 ⟨rfl, hb2⟩) | (go_at_call 116; refine (g2 _ hb2).mono ?_; rintro r w3 ⟨rfl, hb3⟩) | (go_at_call 117; refine (g3 _ (bl_t hb2 hb3)).mono ?_; rintro r w4 ⟨v4, rfl, hv4, hb4⟩))
    go_ret3
    exact ⟨⟨v4, rfl, hv4⟩, bl_t (bl_t hb2 hb3) hb4⟩
  ·rw [if_neg hh]
   have g3 := fun w' (hb : Below w.heap.size w w') => put_nil p w' (hT.below hb) (by omega) (by omega)
   by_cases a1 : 55296 ≤ p
   ·have a1I : (55296 : Int) ≤ (p : Int) := by omega
    have a2I : (56319 : Int) < (p : Int) := by omega
    have hd : decide ((p : Int) ≤ 56319) = false := decide_eq_false (by omega)
    clear hh hr hl a1
    go_enter Tryz.func98, Tryz.ntmps98
    go_wp2_with (first | (go_at_call 114; refine g1.mono ?_; rintro r w2 ⟨rfl, hb2⟩) | (go_at_call 117; refine (g3 _ hb2).mono ?_; rintro r w4 ⟨v4, rfl, hv4, hb4⟩))
    go_ret3
    exact ⟨⟨v4, rfl, hv4⟩, bl_t hb2 hb4⟩
   ·have a1I : (p : Int) < (55296 : Int) := by omega
    have hd : decide ((55296 : Int) ≤ (p : Int)) = false := decide_eq_false (by omega)
    clear hh hr hl a1
    go_enter Tryz.func98, Tryz.ntmps98
    go_wp2_with (first | (go_at_call 114; refine g1.mono ?_; rintro r w2 ⟨rfl, hb2⟩) | (go_at_call 117; refine (g3 _ hb2).mono ?_; rintro r w4 ⟨v4, rfl, hv4, hb4⟩))
    go_ret3
    exact ⟨⟨v4, rfl, hv4⟩, bl_t hb2 hb4⟩
end Go.Proofs.YtjakgdaodlgeaaaGreatDoor.Lx

namespace Go.Proofs.YtjakgdaodlgeaaaGreatDoor.Lx
open Go.RowKit
attribute [local go_sem] setCell_drewN alloc_drewN

def meanV (c : Int) : Int := if c = 34 then 34 else if c = 92 then 92 else if c = 47 then 47 else if c = 98 then 8 else if c = 102 then 12 else if c = 110 then 10 else if c = 114 then 13 else if c = 116 then 9 else 0
def meanB (c : Int) : Bool := if c = 34 then true else if c = 92 then true else if c = 47 then true else if c = 98 then true else if c = 102 then true else if c = 110 then true else if c = 114 then true else if c = 116 then true else false
theorem meanV_bd (c : Int) : 0 ≤ meanV c ∧ meanV c < 256 := by
 unfold meanV
 repeat' split
 all_goals omega
theorem r_mn {a b : Int} {c d : Bool} (h : a = b) (g : c = d) : Ending.returned (.tuple #[.int .u8 a, .bool c]) = .returned (.tuple #[.int .u8 b, .bool d]) := by rw [h, g]
set_option maxHeartbeats 800000 in
theorem meaning_any (c : Int) (w : World) :
  Calls Tryz.prog 100 #[.int .u8 c] w fun r w' => r = .returned (.tuple #[.int .u8 (meanV c), .bool (meanB c)]) ∧ w' = w := by
 by_cases h0 : c = 34
 ·subst h0
  go_enter Tryz.func100, Tryz.ntmps100
  go_wp2
  go_ret2
  exact ⟨rfl, rfl⟩
 ·have g0 : (c == 34) = false := beq_eq_false_iff_ne.2 h0
  by_cases h1 : c = 92
  ·subst h1
   go_enter Tryz.func100, Tryz.ntmps100
   go_wp2
   go_ret2
   exact ⟨rfl, rfl⟩
  ·have g1 : (c == 92) = false := beq_eq_false_iff_ne.2 h1
   by_cases h2 : c = 47
   ·subst h2
    go_enter Tryz.func100, Tryz.ntmps100
    go_wp2
    go_ret2
    exact ⟨rfl, rfl⟩
   ·have g2 : (c == 47) = false := beq_eq_false_iff_ne.2 h2
    by_cases h3 : c = 98
    ·subst h3
     go_enter Tryz.func100, Tryz.ntmps100
     go_wp2
     go_ret2
     exact ⟨rfl, rfl⟩
    ·have g3 : (c == 98) = false := beq_eq_false_iff_ne.2 h3
     by_cases h4 : c = 102
     ·subst h4
      go_enter Tryz.func100, Tryz.ntmps100
      go_wp2
      go_ret2
      exact ⟨rfl, rfl⟩
     ·have g4 : (c == 102) = false := beq_eq_false_iff_ne.2 h4
      by_cases h5 : c = 110
      ·subst h5
       go_enter Tryz.func100, Tryz.ntmps100
       go_wp2
       go_ret2
       exact ⟨rfl, rfl⟩
      ·have g5 : (c == 110) = false := beq_eq_false_iff_ne.2 h5
       by_cases h6 : c = 114
       ·subst h6
        go_enter Tryz.func100, Tryz.ntmps100
        go_wp2
        go_ret2
        exact ⟨rfl, rfl⟩
       ·have g6 : (c == 114) = false := beq_eq_false_iff_ne.2 h6
        by_cases h7 : c = 116
        ·subst h7
         go_enter Tryz.func100, Tryz.ntmps100
         go_wp2
         go_ret2
         exact ⟨rfl, rfl⟩
        ·have g7 : (c == 116) = false := beq_eq_false_iff_ne.2 h7
         have HR : Hid (meanV c = 0 ∧ meanB c = false) := by show _ ∧ _; simp [meanV, meanB, h0, h1, h2, h3, h4, h5, h6, h7]
         clear h0 h1 h2 h3 h4 h5 h6 h7
         go_enter Tryz.func100, Tryz.ntmps100
         go_wp2
         go_ret2
         exact ⟨r_mn HR.out.1.symm HR.out.2.symm, rfl⟩
theorem slash_any (c : Int) (w : World) :
  Calls Tryz.prog 97 #[.int .u8 c] w fun r w' => r = .returned (.bool (c == 92)) ∧ Below w.heap.size w w' := by
 go_enter Tryz.func97, Tryz.ntmps97
 go_wp2
 go_ret
 exact ⟨rfl, Below.refl _ _⟩
set_option maxHeartbeats 400000 in
theorem mean1_any (c : Int) (a : Nat) (old : Value) (w : World) (ha : w.cell? ⟨a, 0, none⟩ = some old) (hfa : w.frozen? ⟨a, 0, none⟩ = false) :
  Calls Tryz.prog 99 #[.int .u8 c, .pointer (some ⟨a, 0, none⟩)] w fun r w' => r = .returned (.bool (meanB c)) ∧ ∃ n, w' = (w.setCell ⟨a, 0, none⟩ (.int .u8 (meanV c))).drewN n := by
 have g1 := meaning_any c w
 generalize meanB c = x at *
 generalize meanV c = y at *
 go_enter Tryz.func99, Tryz.ntmps99
 go_wp2_with (go_at_call 100; refine g1.mono ?_; rintro r w' ⟨rfl, rfl⟩)
 go_ret
 exact ⟨rfl, 0, rfl⟩
set_option maxHeartbeats 400000 in
theorem taken_mean (a : Nat) (g : Int → Int) (l : List UInt8) (i : Nat) (v : Value) (p : Int → Bool) (w : World) (hB : Byt w v l) (hi : i ≤ l.length) (hm : l.length ≤ 281474976710656)
  (hf : ∀ c, 0 ≤ c → c < 256 → Calls Tryz.prog 99 #[.int .u8 c, .pointer (some ⟨a, 0, none⟩)] w fun r w' => r = .returned (.bool (p c)) ∧ ∃ n, w' = (w.setCell ⟨a, 0, none⟩ (.int .u8 (g c))).drewN n) :
  Calls Tryz.prog 93 #[v, .int .i64 i, .func (.func 99) #[] #[.pointer (some ⟨a, 0, none⟩)]] w fun r w' => r = .returned (plV (takenL l i p)) ∧ ((i < l.length ∧ ∃ n, w' = (w.setCell ⟨a, 0, none⟩ (.int .u8 (g (bx l i)))).drewN n) ∨ (¬ i < l.length ∧ w' = w)) := by
 have hmI : (l.length : Int) ≤ 281474976710656 := by omega
 have g1 := fun w => badAt_any i w (by omega)
 by_cases hlt : i < l.length
 ·rcases hB with ⟨h0, _⟩ | ⟨bb, off, cap, rfl, hc, hm', hL⟩
  ·omega
  ·have hcell := hL.cell i hlt
   have hI : (i : Int) < (l.length : Int) := by omega
   have h1 := hf (bx l i) (bx_lo l i) (bx_hi l i)
   have HG : Hid (i < l.length) := hlt
   obtain ⟨y, hy⟩ : ∃ y, g (bx l i) = y := ⟨_, rfl⟩
   rw [hy] at h1 ⊢
   clear hy
   cases hp : p (bx l i)
   ·rw [hp] at h1
    have HR : Hid (takenL l i p = .error (i + 1)) := by show _ = _; simp [takenL, hasAt_in p hlt, hp]
    clear hp hL hf hc hm'
    generalize bx l i = c at *
    go_enter Tryz.func93, Tryz.ntmps93
    go_wp2_with (first | (go_at_call 99; refine h1.mono ?_; rintro r w2 ⟨rfl, q, rfl⟩) | (go_at_call 48; refine (g1 _).mono ?_; rintro r w3 ⟨rfl, rfl⟩))
    go_ret2
    exact ⟨r_pl (by rw [HR.out]; rfl), .inl ⟨HG.out, _, rfl⟩⟩
   ·rw [hp] at h1
    have HR : Hid (takenL l i p = .ok (i + 1)) := by show _ = _; simp [takenL, hasAt_in p hlt, hp]
    clear hp hL hf hc hm' g1
    generalize bx l i = c at *
    go_enter Tryz.func93, Tryz.ntmps93
    go_wp2_with (go_at_call 99; refine h1.mono ?_; rintro r w2 ⟨rfl, q, rfl⟩)
    go_ret2
    exact ⟨r_pl (by rw [HR.out]; simp [plV]), .inl ⟨HG.out, _, rfl⟩⟩
 ·have hI : ¬ (i : Int) < (l.length : Int) := by omega
  have HR : Hid (takenL l i p = .error (i + 1)) := by show _ = _; simp [takenL, hasAt_out p hlt]
  have HL : Hid (¬ i < l.length) := hlt
  obtain ⟨ad, cap, rfl, _⟩ := hB.shape
  clear hB hf
  go_enter Tryz.func93, Tryz.ntmps93
  go_wp2_with (go_at_call 48; refine (g1 _).mono ?_; rintro r w3 ⟨rfl, rfl⟩)
  go_ret2
  exact ⟨r_pl (by rw [HR.out]; rfl), .inr ⟨HL.out, rfl⟩⟩
def escapeL (l : List UInt8) (i : Nat) : Bp :=
 if hasAt l i (· == 92) = true then (if hasAt l (i + 1) (· == 117) = true then pointL l (i + 2) else if hasAt l (i + 1) meanB = true then .ok ([UInt8.ofNat (meanV (bx l (i + 1))).toNat], i + 2) else .error (i + 2)) else .error (i + 1)
theorem byt_one (w : World) (x : Int) (h0 : 0 ≤ x) (h1 : x < 256) : Byt (w.alloc (.cells #[.int .u8 x] 5)) (.slice (some ⟨w.heap.size, 0, none⟩) 1 1) [UInt8.ofNat x.toNat] :=
 row_lit w _ 1 _ 5 rfl (by omega) (bx_lo _) (bx_hi _) (fun i hi => by
  obtain rfl : i = 0 := by omega
  simp [bx]
  omega)
theorem byt_one' (W : World) (b : Nat) (x : Int) (q : Nat) (h0 : 0 ≤ x) (h1 : x < 256) (hb : W.heap.size = b) : Byt ((W.alloc (.cells #[.int .u8 x] 5)).drewN q) (.slice (some ⟨b, 0, none⟩) 1 1) [UInt8.ofNat x.toNat] := by
 subst hb
 exact Byt.below (byt_one W x h0 h1) (bl_n (Below.refl _ _) _)
set_option maxRecDepth 100000 in
set_option maxHeartbeats 6400000 in
theorem escape_any (l : List UInt8) (i : Nat) (v : Value) (w : World) (hT : Tab w) (hB : Byt w v l) (hi : i ≤ l.length) (hm : l.length ≤ 281474976710656) :
  Calls Tryz.prog 73 #[v, .int .i64 i] w fun r w' => bpPost (escapeL l i) r w' ∧ Below w.heap.size w w' := by
 have hiI : (i : Int) ≤ 281474976710656 := by omega
 have g1 := taken_slash l i v (· == 92) w hB hi hm (fun c => slash_any c w)
 cases h : hasAt l i (· == 92)
 ·have e : takenL l i (· == 92) = .error (i + 1) := by simp [takenL, h]
  have HR : Hid (escapeL l i = .error (i + 1)) := by show _ = _; simp [escapeL, h]
  rw [e] at g1
  simp only [plV, errV] at g1
  clear h e
  go_enter Tryz.func73, Tryz.ntmps73
  go_wp2_with (go_at_call 93; with_reducible refine g1.mono ?_; rintro r w2 ⟨rfl, hb2⟩)
  go_ret3
  exact ⟨by rw [HR.out]; rfl, hb2⟩
 ·have hl := hasAt_lt h
  have e : takenL l i (· == 92) = .ok (i + 1) := by simp [takenL, h]
  rw [e] at g1
  simp only [plV] at g1
  cases h2 : hasAt l (i + 1) (· == 117)
  ·have s1 := fun (w' : World) (b' : Nat) (hk : w'.heap.size = b') (hb : Byt w' v l) => (show Calls Tryz.prog 69 #[v, .int .i64 ((i : Int) + 1), .slice (some ⟨b', 0, none⟩) 1 1] (w'.alloc (.cells #[.int .u8 117] 5)) fun r w2 => r = .returned (.bool false) ∧ w2 = w'.alloc (.cells #[.int .u8 117] 5) from by have := stands_ws l (i + 1) v [117] #[.int .u8 117] 1 (· == 117) false w' rfl rfl (by decide) b' hk hb (by omega) hm (fun c => by simp) (by assumption); simpa using this)
   cases h3 : hasAt l (i + 1) meanB
   ·have e3 : takenL l (i + 1) meanB = .error (i + 1 + 1) := by simp [takenL, h3]
    have HR : Hid (escapeL l i = .error (i + 1 + 1)) := by show _ = _; simp [escapeL, h, h2, h3]
    have g2 := fun (w' : World) (b : Nat) (hk : w'.heap.size = b) (hb : Byt w' v l) => taken_mean b (fun c => meanV c) l (i + 1) v meanB (w'.alloc (.cells #[.int .u8 0] 5)) (Row.alloc hb _) (by omega) hm (fun c _ _ => mean1_any c b (.int .u8 0) _ (by subst hk; simp [go_sem]) (by subst hk; simp [go_sem]))
    rw [e3] at g2
    simp only [plV, errV] at g2
    rw [show ((i + 1 : Nat) : Int) = (i : Int) + 1 by omega] at g2
    clear h e h2 h3 e3
    go_enter Tryz.func73, Tryz.ntmps73
    go_wp2_with fail
    refine g1.mono ?_
    rintro r w2 ⟨rfl, hb2⟩
    have hB2 := hB.below hb2
    have hB3 : Byt (w2.alloc (.cells #[.int .u8 117] 5)) v l := Row.alloc hB2 _
    go_wp2_with (first | (go_at_call 69; with_reducible refine (s1 _ _ rfl hB2).mono ?_; rintro r w3 ⟨rfl, rfl⟩) | (go_at_call 93; with_reducible refine (g2 _ _ (by simp) hB3).mono ?_; rintro r w4 ⟨rfl, hb4⟩))
    go_ret3
    refine ⟨by rw [HR.out]; rfl, ?_⟩
    rcases hb4 with ⟨_, q, rfl⟩ | ⟨_, rfl⟩
    ·have := hb2.size
     exact bl_n (bl_s (bl_a (bl_a hb2 _) _) (by omega) _) _
    ·exact bl_a (bl_a hb2 _) _
   ·have e3 : takenL l (i + 1) meanB = .ok (i + 1 + 1) := by simp [takenL, h3]
    have hl3 := hasAt_lt h3
    have HL : Hid (i + 1 < l.length) := hl3
    obtain ⟨y, hy⟩ : ∃ y, meanV (bx l (i + 1)) = y := ⟨_, rfl⟩
    have yb := meanV_bd (bx l (i + 1))
    have HR : Hid (escapeL l i = .ok ([UInt8.ofNat y.toNat], i + 2)) := by show _ = _; simp [escapeL, h, h2, h3, hy]
    have g2 := fun (w' : World) (b : Nat) (hk : w'.heap.size = b) (hb : Byt w' v l) => taken_mean b (fun c => meanV c) l (i + 1) v meanB (w'.alloc (.cells #[.int .u8 0] 5)) (Row.alloc hb _) (by omega) hm (fun c _ _ => mean1_any c b (.int .u8 0) _ (by subst hk; simp [go_sem]) (by subst hk; simp [go_sem]))
    rw [e3, hy] at g2
    rw [hy] at yb
    simp only [plV] at g2
    rw [show ((i + 1 : Nat) : Int) = (i : Int) + 1 by omega] at g2
    clear h e h2 h3 e3 hy
    go_enter Tryz.func73, Tryz.ntmps73
    go_wp2_with fail
    refine g1.mono ?_
    rintro r w2 ⟨rfl, hb2⟩
    have hB2 := hB.below hb2
    have hB3 : Byt (w2.alloc (.cells #[.int .u8 117] 5)) v l := Row.alloc hB2 _
    go_wp2_with (first | (go_at_call 69; with_reducible refine (s1 _ _ rfl hB2).mono ?_; rintro r w3 ⟨rfl, rfl⟩) | (go_at_call 93; with_reducible refine (g2 _ _ (by simp) hB3).mono ?_; rintro r w4 ⟨rfl, hb4⟩; obtain ⟨q, rfl⟩ : ∃ q, w4 = (((w2.alloc (.cells #[.int .u8 117] 5)).alloc (.cells #[.int .u8 0] 5)).setCell ⟨w2.heap.size + 1, 0, none⟩ (.int .u8 y)).drewN q := by (rcases hb4 with ⟨_, h⟩ | ⟨h, _⟩; exact h; exact absurd HL.out h)))
    go_ret3
    refine ⟨by rw [HR.out]; exact ⟨.slice (some ⟨w2.heap.size + 1 + 1, 0, none⟩) 1 1, rfl, byt_one' _ _ y q yb.1 yb.2 (by simp)⟩, ?_⟩
    have := hb2.size
    exact (by with_reducible repeat (first | exact hb2 | refine bl_n ?_ _ | refine bl_a ?_ _ | refine bl_s ?_ (by omega) _))
  ·have hl2 := hasAt_lt h2
   have s1 := fun (w' : World) (b' : Nat) (hk : w'.heap.size = b') (hb : Byt w' v l) => (show Calls Tryz.prog 69 #[v, .int .i64 ((i : Int) + 1), .slice (some ⟨b', 0, none⟩) 1 1] (w'.alloc (.cells #[.int .u8 117] 5)) fun r w2 => r = .returned (.bool true) ∧ w2 = w'.alloc (.cells #[.int .u8 117] 5) from by have := stands_ws l (i + 1) v [117] #[.int .u8 117] 1 (· == 117) true w' rfl rfl (by decide) b' hk hb (by omega) hm (fun c => by simp) (by assumption); simpa using this)
   have g2 := fun (w' : World) (hb : Below w.heap.size w w') => point_any l (i + 2) v w' (hT.below hb) (hB.below hb) (by omega) hm
   rw [show ((i + 2 : Nat) : Int) = (i : Int) + 1 + 1 by omega] at g2
   have HR : Hid (escapeL l i = pointL l (i + 2)) := by show _ = _; simp [escapeL, h, h2]
   clear h e h2
   cases hp : pointL l (i + 2) with
   | error n =>
    rw [hp] at g2
    simp only [bpPost, errV] at g2
    go_enter Tryz.func73, Tryz.ntmps73
    go_wp2_with (first | (go_at_call 93; with_reducible refine g1.mono ?_; rintro r w2 ⟨rfl, hb2⟩; have hB2 := hB.below hb2) | (go_at_call 69; with_reducible refine (s1 _ _ rfl hB2).mono ?_; rintro r w3 ⟨rfl, rfl⟩) | (go_at_call 98; refine (g2 _ (bl_a hb2 _)).mono ?_; rintro r w4 ⟨rfl, hb4⟩))
    go_ret3
    exact ⟨by rw [HR.out, hp]; rfl, bl_t (bl_a hb2 _) hb4⟩
   | ok r =>
    obtain ⟨t, k⟩ := r
    rw [hp] at g2
    simp only [bpPost] at g2
    go_enter Tryz.func73, Tryz.ntmps73
    go_wp2_with (first | (go_at_call 93; with_reducible refine g1.mono ?_; rintro r w2 ⟨rfl, hb2⟩; have hB2 := hB.below hb2) | (go_at_call 69; with_reducible refine (s1 _ _ rfl hB2).mono ?_; rintro r w3 ⟨rfl, rfl⟩) | (go_at_call 98; refine (g2 _ (bl_a hb2 _)).mono ?_; rintro r w4 ⟨⟨v4, rfl, hv4⟩, hb4⟩))
    go_ret3
    exact ⟨by rw [HR.out, hp]; exact ⟨v4, rfl, hv4⟩, bl_t (bl_a hb2 _) hb4⟩
end Go.Proofs.YtjakgdaodlgeaaaGreatDoor.Lx
