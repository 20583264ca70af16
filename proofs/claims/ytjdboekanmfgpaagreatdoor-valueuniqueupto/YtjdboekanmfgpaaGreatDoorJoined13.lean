/-
  What lex.meaning and lex.escape answer: what an escape stands for, or where it is bad. Conditions: the bytes lie in memory, at most 2^48 of them; the table of greatest code points holds its four numbers.
  What lex.plain answers, and what is held against lex.text. Conditions: the bytes lie in memory, at most 2^45 of them; the table of greatest code points holds its four numbers.
  Which values may be, as a test on trees; how long rows may be. No condition.
-/
import Derived.Test.YtjdboekanmfgpaaGreatDoorJoined12
import Derived.Test.YtjdboekanmfgpaaGreatDoorJoined0
import Derived.Test.YtjdboekanmfgpaaGreatDoorJoined5
import Derived.Test.YtjdboekanmfgpaaGreatDoorJoined2
namespace Go.Proofs.YtjdboekanmfgpaaGreatDoor.Lx
open Go.RowKit
attribute [local go_sem] setCell_drewN alloc_drewN

def meanV (c : Int) : Int := if c = 34 then 34 else if c = 92 then 92 else if c = 47 then 47 else if c = 98 then 8 else if c = 102 then 12 else if c = 110 then 10 else if c = 114 then 13 else if c = 116 then 9 else 0
def meanB (c : Int) : Bool := if c = 34 then true else if c = 92 then true else if c = 47 then true else if c = 98 then true else if c = 102 then true else if c = 110 then true else if c = 114 then true else if c = 116 then true else false
theorem meanV_bd (c : Int) : 0 ≤ meanV c ∧ meanV c < 256 := by
 unfold meanV
 repeat' split
 all_goals omega
theorem r_mn {a b : Int} {c d : Bool} (h : a = b) (g : c = d) : Ending.returned (.tuple #[.int .u8 a, .bool c]) = .returned (.tuple #[.int .u8 b, .bool d]) := by rw [h, g]

set_option maxHeartbeats 800000 in
theorem meaning_any (c : Int) (w : World) :
  Calls Tryz.prog 212 #[.int .u8 c] w fun r w' => r = .returned (.tuple #[.int .u8 (meanV c), .bool (meanB c)]) ∧ w' = w := by
 by_cases h0 : c = 34
 ·subst h0
  go_enter Tryz.func212, Tryz.ntmps212
  go_wp2
  go_ret2
  exact ⟨rfl, rfl⟩
 ·have g0 : (c == 34) = false := beq_eq_false_iff_ne.2 h0
  by_cases h1 : c = 92
  ·subst h1
   go_enter Tryz.func212, Tryz.ntmps212
   go_wp2
   go_ret2
   exact ⟨rfl, rfl⟩
  ·have g1 : (c == 92) = false := beq_eq_false_iff_ne.2 h1
   by_cases h2 : c = 47
   ·subst h2
    go_enter Tryz.func212, Tryz.ntmps212
    go_wp2
    go_ret2
    exact ⟨rfl, rfl⟩
   ·have g2 : (c == 47) = false := beq_eq_false_iff_ne.2 h2
    by_cases h3 : c = 98
    ·subst h3
     go_enter Tryz.func212, Tryz.ntmps212
     go_wp2
     go_ret2
     exact ⟨rfl, rfl⟩
    ·have g3 : (c == 98) = false := beq_eq_false_iff_ne.2 h3
     by_cases h4 : c = 102
     ·subst h4
      go_enter Tryz.func212, Tryz.ntmps212
      go_wp2
      go_ret2
      exact ⟨rfl, rfl⟩
     ·have g4 : (c == 102) = false := beq_eq_false_iff_ne.2 h4
      by_cases h5 : c = 110
      ·subst h5
       go_enter Tryz.func212, Tryz.ntmps212
       go_wp2
       go_ret2
       exact ⟨rfl, rfl⟩
      ·have g5 : (c == 110) = false := beq_eq_false_iff_ne.2 h5
       by_cases h6 : c = 114
       ·subst h6
        go_enter Tryz.func212, Tryz.ntmps212
        go_wp2
        go_ret2
        exact ⟨rfl, rfl⟩
       ·have g6 : (c == 114) = false := beq_eq_false_iff_ne.2 h6
        by_cases h7 : c = 116
        ·subst h7
         go_enter Tryz.func212, Tryz.ntmps212
         go_wp2
         go_ret2
         exact ⟨rfl, rfl⟩
        ·have g7 : (c == 116) = false := beq_eq_false_iff_ne.2 h7
         have HR : Hid (meanV c = 0 ∧ meanB c = false) := by show _ ∧ _; simp [meanV, meanB, h0, h1, h2, h3, h4, h5, h6, h7]
         clear h0 h1 h2 h3 h4 h5 h6 h7
         go_enter Tryz.func212, Tryz.ntmps212
         go_wp2
         go_ret2
         exact ⟨r_mn HR.out.1.symm HR.out.2.symm, rfl⟩

theorem slash_any (c : Int) (w : World) :
  Calls Tryz.prog 209 #[.int .u8 c] w fun r w' => r = .returned (.bool (c == 92)) ∧ Below w.heap.size w w' := by
 go_enter Tryz.func209, Tryz.ntmps209
 go_wp2
 go_ret
 exact ⟨rfl, Below.refl _ _⟩

set_option maxHeartbeats 400000 in
theorem mean1_any (c : Int) (a : Nat) (old : Value) (w : World) (ha : w.cell? ⟨a, 0, none⟩ = some old) (hfa : w.frozen? ⟨a, 0, none⟩ = false) :
  Calls Tryz.prog 211 #[.int .u8 c, .pointer (some ⟨a, 0, none⟩)] w fun r w' => r = .returned (.bool (meanB c)) ∧ ∃ n, w' = (w.setCell ⟨a, 0, none⟩ (.int .u8 (meanV c))).drewN n := by
 have g1 := meaning_any c w
 generalize meanB c = x at *
 generalize meanV c = y at *
 go_enter Tryz.func211, Tryz.ntmps211
 go_wp2_with (go_at_call 212; refine g1.mono ?_; rintro r w' ⟨rfl, rfl⟩)
 go_ret
 exact ⟨rfl, 0, rfl⟩

set_option maxHeartbeats 400000 in
theorem taken_mean (a : Nat) (g : Int → Int) (l : List UInt8) (i : Nat) (v : Value) (p : Int → Bool) (w : World) (hB : Byt w v l) (hi : i ≤ l.length) (hm : l.length ≤ 281474976710656)
  (hf : ∀ c, 0 ≤ c → c < 256 → Calls Tryz.prog 211 #[.int .u8 c, .pointer (some ⟨a, 0, none⟩)] w fun r w' => r = .returned (.bool (p c)) ∧ ∃ n, w' = (w.setCell ⟨a, 0, none⟩ (.int .u8 (g c))).drewN n) :
  Calls Tryz.prog 207 #[v, .int .i64 i, .func (.func 211) #[] #[.pointer (some ⟨a, 0, none⟩)]] w fun r w' => r = .returned (plV (takenL l i p)) ∧ ((i < l.length ∧ ∃ n, w' = (w.setCell ⟨a, 0, none⟩ (.int .u8 (g (bx l i)))).drewN n) ∨ (¬ i < l.length ∧ w' = w)) := by
 have hmI : (l.length : Int) ≤ 281474976710656 := by omega
 have g1 := fun w => badAt_any i w (by omega)
 by_cases hlt : i < l.length
 ·rcases hB with ⟨h0, _⟩ | ⟨bb, off, cap, rfl, hc, hm', hL⟩
  ·omega
  ·have hcell := hL.cell i hlt
   have hI : (i : Int) < (l.length : Int) := by omega
   have h1 := hf (bx l i) (bx_lo l i) (bx_hi l i)
   have HG : Hid (i < l.length) := hlt
   obtain ⟨y, hy⟩ : ∃ y, g (bx l i) = y := ⟨_, rfl⟩
   rw [hy] at h1 ⊢
   clear hy
   cases hp : p (bx l i)
   ·rw [hp] at h1
    have HR : Hid (takenL l i p = .error (i + 1)) := by show _ = _; simp [takenL, hasAt_in p hlt, hp]
    clear hp hL hf hc hm'
    generalize bx l i = c at *
    go_enter Tryz.func207, Tryz.ntmps207
    go_wp2_with (first | (go_at_call 211; refine h1.mono ?_; rintro r w2 ⟨rfl, q, rfl⟩) | (go_at_call 180; refine (g1 _).mono ?_; rintro r w3 ⟨rfl, rfl⟩))
    go_ret2
    exact ⟨r_pl (by rw [HR.out]; rfl), .inl ⟨HG.out, _, rfl⟩⟩
   ·rw [hp] at h1
    have HR : Hid (takenL l i p = .ok (i + 1)) := by show _ = _; simp [takenL, hasAt_in p hlt, hp]
    clear hp hL hf hc hm' g1
    generalize bx l i = c at *
    go_enter Tryz.func207, Tryz.ntmps207
    go_wp2_with (go_at_call 211; refine h1.mono ?_; rintro r w2 ⟨rfl, q, rfl⟩)
    go_ret2
    exact ⟨r_pl (by rw [HR.out]; simp [plV]), .inl ⟨HG.out, _, rfl⟩⟩
 ·have hI : ¬ (i : Int) < (l.length : Int) := by omega
  have HR : Hid (takenL l i p = .error (i + 1)) := by show _ = _; simp [takenL, hasAt_out p hlt]
  have HL : Hid (¬ i < l.length) := hlt
  obtain ⟨ad, cap, rfl, _⟩ := hB.shape
  clear hB hf
  go_enter Tryz.func207, Tryz.ntmps207
  go_wp2_with (go_at_call 180; refine (g1 _).mono ?_; rintro r w3 ⟨rfl, rfl⟩)
  go_ret2
  exact ⟨r_pl (by rw [HR.out]; rfl), .inr ⟨HL.out, rfl⟩⟩

def escapeL (l : List UInt8) (i : Nat) : Bp :=
 if hasAt l i (· == 92) = true then (if hasAt l (i + 1) (· == 117) = true then pointL l (i + 2) else if hasAt l (i + 1) meanB = true then .ok ([UInt8.ofNat (meanV (bx l (i + 1))).toNat], i + 2) else .error (i + 2)) else .error (i + 1)

theorem byt_one (w : World) (x : Int) (h0 : 0 ≤ x) (h1 : x < 256) : Byt (w.alloc (.cells #[.int .u8 x] 5)) (.slice (some ⟨w.heap.size, 0, none⟩) 1 1) [UInt8.ofNat x.toNat] :=
 row_lit w _ 1 _ 5 rfl (by omega) (bx_lo _) (bx_hi _) (fun i hi => by
  obtain rfl : i = 0 := by omega
  simp [bx]
  omega)

theorem byt_one' (W : World) (b : Nat) (x : Int) (q : Nat) (h0 : 0 ≤ x) (h1 : x < 256) (hb : W.heap.size = b) : Byt ((W.alloc (.cells #[.int .u8 x] 5)).drewN q) (.slice (some ⟨b, 0, none⟩) 1 1) [UInt8.ofNat x.toNat] := by
 subst hb
 exact Byt.below (byt_one W x h0 h1) (bl_n (Below.refl _ _) _)

set_option maxRecDepth 100000 in
set_option maxHeartbeats 6400000 in
theorem escape_any (l : List UInt8) (i : Nat) (v : Value) (w : World) (hT : Tab w) (hB : Byt w v l) (hi : i ≤ l.length) (hm : l.length ≤ 281474976710656) :
  Calls Tryz.prog 198 #[v, .int .i64 i] w fun r w' => bpPost (escapeL l i) r w' ∧ Below w.heap.size w w' := by
 have hiI : (i : Int) ≤ 281474976710656 := by omega
 have g1 := taken_slash l i v (· == 92) w hB hi hm (fun c => slash_any c w)
 cases h : hasAt l i (· == 92)
 ·have e : takenL l i (· == 92) = .error (i + 1) := by simp [takenL, h]
  have HR : Hid (escapeL l i = .error (i + 1)) := by show _ = _; simp [escapeL, h]
  rw [e] at g1
  simp only [plV, errV] at g1
  clear h e
  go_enter Tryz.func198, Tryz.ntmps198
  go_wp2_with (go_at_call 207; with_reducible refine g1.mono ?_; rintro r w2 ⟨rfl, hb2⟩)
  go_ret3
  exact ⟨by rw [HR.out]; rfl, hb2⟩
 ·have hl := hasAt_lt h
  have e : takenL l i (· == 92) = .ok (i + 1) := by simp [takenL, h]
  rw [e] at g1
  simp only [plV] at g1
  cases h2 : hasAt l (i + 1) (· == 117)
  ·have s1 := fun (w' : World) (b' : Nat) (hk : w'.heap.size = b') (hb : Byt w' v l) => (show Calls Tryz.prog 194 #[v, .int .i64 ((i : Int) + 1), .slice (some ⟨b', 0, none⟩) 1 1] (w'.alloc (.cells #[.int .u8 117] 5)) fun r w2 => r = .returned (.bool false) ∧ w2 = w'.alloc (.cells #[.int .u8 117] 5) from by have := stands_ws l (i + 1) v [117] #[.int .u8 117] 1 (· == 117) false w' rfl rfl (by decide) b' hk hb (by omega) hm (fun c => by simp) (by assumption); simpa using this)
   cases h3 : hasAt l (i + 1) meanB
   ·have e3 : takenL l (i + 1) meanB = .error (i + 1 + 1) := by simp [takenL, h3]
    have HR : Hid (escapeL l i = .error (i + 1 + 1)) := by show _ = _; simp [escapeL, h, h2, h3]
    have g2 := fun (w' : World) (b : Nat) (hk : w'.heap.size = b) (hb : Byt w' v l) => taken_mean b (fun c => meanV c) l (i + 1) v meanB (w'.alloc (.cells #[.int .u8 0] 5)) (Row.alloc hb _) (by omega) hm (fun c _ _ => mean1_any c b (.int .u8 0) _ (by subst hk; simp [go_sem]) (by subst hk; simp [go_sem]))
    rw [e3] at g2
    simp only [plV, errV] at g2
    rw [show ((i + 1 : Nat) : Int) = (i : Int) + 1 by omega] at g2
    clear h e h2 h3 e3
    go_enter Tryz.func198, Tryz.ntmps198
    go_wp2_with fail
    refine g1.mono ?_
    rintro r w2 ⟨rfl, hb2⟩
    have hB2 := hB.below hb2
    have hB3 : Byt (w2.alloc (.cells #[.int .u8 117] 5)) v l := Row.alloc hB2 _
    go_wp2_with (first | (go_at_call 194; with_reducible refine (s1 _ _ rfl hB2).mono ?_; rintro r w3 ⟨rfl, rfl⟩) | (go_at_call 207; with_reducible refine (g2 _ _ (by simp) hB3).mono ?_; rintro r w4 ⟨rfl, hb4⟩))
    go_ret3
    refine ⟨by rw [HR.out]; rfl, ?_⟩
    rcases hb4 with ⟨_, q, rfl⟩ | ⟨_, rfl⟩
    ·have := hb2.size
     exact bl_n (bl_s (bl_a (bl_a hb2 _) _) (by omega) _) _
    ·exact bl_a (bl_a hb2 _) _
   ·have e3 : takenL l (i + 1) meanB = .ok (i + 1 + 1) := by simp [takenL, h3]
    have hl3 := hasAt_lt h3
    have HL : Hid (i + 1 < l.length) := hl3
    obtain ⟨y, hy⟩ : ∃ y, meanV (bx l (i + 1)) = y := ⟨_, rfl⟩
    have yb := meanV_bd (bx l (i + 1))
    have HR : Hid (escapeL l i = .ok ([UInt8.ofNat y.toNat], i + 2)) := by show _ = _; simp [escapeL, h, h2, h3, hy]
    have g2 := fun (w' : World) (b : Nat) (hk : w'.heap.size = b) (hb : Byt w' v l) => taken_mean b (fun c => meanV c) l (i + 1) v meanB (w'.alloc (.cells #[.int .u8 0] 5)) (Row.alloc hb _) (by omega) hm (fun c _ _ => mean1_any c b (.int .u8 0) _ (by subst hk; simp [go_sem]) (by subst hk; simp [go_sem]))
    rw [e3, hy] at g2
    rw [hy] at yb
    simp only [plV] at g2
    rw [show ((i + 1 : Nat) : Int) = (i : Int) + 1 by omega] at g2
    clear h e h2 h3 e3 hy
    go_enter Tryz.func198, Tryz.ntmps198
    go_wp2_with fail
    refine g1.mono ?_
    rintro r w2 ⟨rfl, hb2⟩
    have hB2 := hB.below hb2
    have hB3 : Byt (w2.alloc (.cells #[.int .u8 117] 5)) v l := Row.alloc hB2 _
    go_wp2_with (first | (go_at_call 194; with_reducible refine (s1 _ _ rfl hB2).mono ?_; rintro r w3 ⟨rfl, rfl⟩) | (go_at_call 207; with_reducible refine (g2 _ _ (by simp) hB3).mono ?_; rintro r w4 ⟨rfl, hb4⟩; obtain ⟨q, rfl⟩ : ∃ q, w4 = (((w2.alloc (.cells #[.int .u8 117] 5)).alloc (.cells #[.int .u8 0] 5)).setCell ⟨w2.heap.size + 1, 0, none⟩ (.int .u8 y)).drewN q := by (rcases hb4 with ⟨_, h⟩ | ⟨h, _⟩; exact h; exact absurd HL.out h)))
    go_ret3
    refine ⟨by rw [HR.out]; exact ⟨.slice (some ⟨w2.heap.size + 1 + 1, 0, none⟩) 1 1, rfl, byt_one' _ _ y q yb.1 yb.2 (by simp)⟩, ?_⟩
    have := hb2.size
    exact (by with_reducible repeat (first | exact hb2 | refine bl_n ?_ _ | refine bl_a ?_ _ | refine bl_s ?_ (by omega) _))
  ·have hl2 := hasAt_lt h2
   have s1 := fun (w' : World) (b' : Nat) (hk : w'.heap.size = b') (hb : Byt w' v l) => (show Calls Tryz.prog 194 #[v, .int .i64 ((i : Int) + 1), .slice (some ⟨b', 0, none⟩) 1 1] (w'.alloc (.cells #[.int .u8 117] 5)) fun r w2 => r = .returned (.bool true) ∧ w2 = w'.alloc (.cells #[.int .u8 117] 5) from by have := stands_ws l (i + 1) v [117] #[.int .u8 117] 1 (· == 117) true w' rfl rfl (by decide) b' hk hb (by omega) hm (fun c => by simp) (by assumption); simpa using this)
   have g2 := fun (w' : World) (hb : Below w.heap.size w w') => point_any l (i + 2) v w' (hT.below hb) (hB.below hb) (by omega) hm
   rw [show ((i + 2 : Nat) : Int) = (i : Int) + 1 + 1 by omega] at g2
   have HR : Hid (escapeL l i = pointL l (i + 2)) := by show _ = _; simp [escapeL, h, h2]
   clear h e h2
   cases hp : pointL l (i + 2) with
   | error n =>
    rw [hp] at g2
    simp only [bpPost, errV] at g2
    go_enter Tryz.func198, Tryz.ntmps198
    go_wp2_with (first | (go_at_call 207; with_reducible refine g1.mono ?_; rintro r w2 ⟨rfl, hb2⟩; have hB2 := hB.below hb2) | (go_at_call 194; with_reducible refine (s1 _ _ rfl hB2).mono ?_; rintro r w3 ⟨rfl, rfl⟩) | (go_at_call 210; refine (g2 _ (bl_a hb2 _)).mono ?_; rintro r w4 ⟨rfl, hb4⟩))
    go_ret3
    exact ⟨by rw [HR.out, hp]; rfl, bl_t (bl_a hb2 _) hb4⟩
   | ok r =>
    obtain ⟨t, k⟩ := r
    rw [hp] at g2
    simp only [bpPost] at g2
    go_enter Tryz.func198, Tryz.ntmps198
    go_wp2_with (first | (go_at_call 207; with_reducible refine g1.mono ?_; rintro r w2 ⟨rfl, hb2⟩; have hB2 := hB.below hb2) | (go_at_call 194; with_reducible refine (s1 _ _ rfl hB2).mono ?_; rintro r w3 ⟨rfl, rfl⟩) | (go_at_call 210; refine (g2 _ (bl_a hb2 _)).mono ?_; rintro r w4 ⟨⟨v4, rfl, hv4⟩, hb4⟩))
    go_ret3
    exact ⟨by rw [HR.out, hp]; exact ⟨v4, rfl, hv4⟩, bl_t (bl_a hb2 _) hb4⟩
end Go.Proofs.YtjdboekanmfgpaaGreatDoor.Lx

namespace Go.Proofs.YtjdboekanmfgpaaGreatDoor.Lx
open Go.RowKit
attribute [local go_sem] setCell_drewN alloc_drewN

/-- How many bytes begin a valid text, and whether they are one. -/
def goodL (t : List UInt8) : Nat × Bool := good t.length (bx t)
theorem goodF_le (len : Nat) (f : Nat → Int) (k : Nat) : ∀ p, p ≤ len → (goodF len f k p).1 ≤ len := by
 induction k with
 | zero => exact fun p h => h
 | succ k ih =>
  intro p h
  unfold goodF
  split
  ·exact h
  ·have s := stepF_le (len - p) (fun i => f (p + i)) (by omega)
   split
   ·exact ih _ (by omega)
   ·show p + _ ≤ len; omega
theorem goodL_le (t : List UInt8) : (goodL t).1 ≤ t.length := goodF_le _ _ _ 0 (Nat.zero_le _)
def plainL (l : List UInt8) (i : Nat) : Pl := if (goodL (sub l i (pass l plainB i))).2 = true then .ok (pass l plainB i) else .error (i + (goodL (sub l i (pass l plainB i))).1 + 1)

set_option maxRecDepth 100000 in
set_option maxHeartbeats 800000 in
theorem plain_any (l : List UInt8) (i : Nat) (v : Value) (w : World) (hT : Tab w) (hB : Byt w v l) (h0 : 0 < l.length) (hi : i ≤ l.length) (hm : l.length ≤ 140737488351232) :
  Calls Tryz.prog 197 #[v, .int .i64 i] w fun r w' => r = .returned (plV (plainL l i)) ∧ Below w.heap.size w w' := by
 have g1 := passed_plain l i v w hB hi (by omega)
 have p1 := pass_ge l plainB i
 have p2 := pass_le (l := l) (p := plainB) hi
 rcases hB with ⟨h, _⟩ | ⟨b, off, cap, rfl, hc, hm', hL⟩
 ·omega
 ·by_cases hic : i < cap
  ·have g2 := fun w' (hb : Below w.heap.size w w') => good_any _ _ _ w' (hT.below hb) (Byt.below (byt_sub hL hc hm' p1 p2) hb)
   rw [sub_length p1 p2] at g2
   have ql := goodL_le (sub l i (pass l plainB i))
   rw [sub_length p1 p2] at ql
   have eg : good (pass l plainB i - i) (bx (sub l i (pass l plainB i))) = goodL (sub l i (pass l plainB i)) := by unfold goodL; rw [sub_length p1 p2]
   rw [eg] at g2
   unfold plainL
   generalize goodL (sub l i (pass l plainB i)) = q at *
   obtain ⟨n, ok⟩ := q
   simp only at g2 ql ⊢
   have g3 := fun w => badAt_any (i + n) w (by omega)
   rw [show ((i + n : Nat) : Int) = (i : Int) + (n : Int) by omega] at g3
   generalize pass l plainB i = e at *
   have haI : (i : Int) ≤ (e : Int) := by omega
   have hicI : (i : Int) < (cap : Int) := by omega
   have heI : (e : Int) ≤ (cap : Int) := by omega
   have hnI : (n : Int) ≤ 140737488351232 := by omega
   have hiI : (i : Int) ≤ 140737488351232 := by omega
   unfold maxLen at hm'
   have hcI : (cap : Int) ≤ 9223372036854775807 := by omega
   clear hL eg hm hm' hc p1 p2 ql hi h0
   cases ok
   ·go_enter Tryz.func197, Tryz.ntmps197
    go_wp2_with (first | (go_at_call 138; refine g1.mono ?_; rintro r w2 ⟨rfl, hb2⟩) | (go_at_call 120; with_reducible refine (g2 _ hb2).mono ?_; rintro r w3 ⟨rfl, q, rfl⟩) | (go_at_call 180; refine (g3 _).mono ?_; rintro r w4 ⟨rfl, rfl⟩))
    go_ret2
    exact ⟨rfl, bl_n hb2 _⟩
   ·clear g3
    go_enter Tryz.func197, Tryz.ntmps197
    go_wp2_with (first | (go_at_call 138; refine g1.mono ?_; rintro r w2 ⟨rfl, hb2⟩) | (go_at_call 120; with_reducible refine (g2 _ hb2).mono ?_; rintro r w3 ⟨rfl, q, rfl⟩))
    go_ret2
    exact ⟨rfl, bl_n hb2 _⟩
  ·have ep : pass l plainB i = i := by omega
   have ei : i = cap := by omega
   have HR : Hid (plainL l i = .ok i) := by show _ = _; simp [plainL, ep, sub, goodL, good, goodF]
   rw [ep] at g1
   have g2 := fun w' (hb : Below w.heap.size w w') => good_any (.slice (some ⟨b, off, none⟩) 0 0) 0 (fun _ => 0) w' (hT.below hb) (.inl ⟨rfl, _, 0, rfl, fun h => by cases h⟩)
   simp only [good, goodF] at g2
   subst ei
   unfold maxLen at hm'
   have hcI : (i : Int) ≤ 9223372036854775807 := by omega
   clear hL hm hm' hc p1 p2 hi h0 ep hic
   go_enter Tryz.func197, Tryz.ntmps197
   go_wp2_with (first | (go_at_call 138; refine g1.mono ?_; rintro r w2 ⟨rfl, hb2⟩) | (go_at_call 120; with_reducible refine (g2 _ hb2).mono ?_; rintro r w3 ⟨rfl, q, rfl⟩))
   go_ret2
   exact ⟨r_pl (by rw [HR.out]; rfl), bl_n hb2 _⟩

theorem pointL_le {l : List UInt8} {i : Nat} {t : List UInt8} {k : Nat} (h : pointL l i = .ok (t, k)) : i + 4 ≤ k ∧ (i ≤ l.length → k ≤ l.length) ∧ t.length ≤ 4 := by
 unfold pointL at h
 cases hu : unitL l false i with
 | error n => rw [hu] at h; cases h
 | ok r =>
  rw [hu] at h
  simp only at h
  have a := unitL_le hu
  split at h
  ·rename_i g
   cases hp : pairL l r.2 r.1 with
   | error n => rw [hp] at h; cases h
   | ok q =>
    rw [hp] at h
    have b := pairL_le hp g.1 g.2
    obtain ⟨rfl, rfl⟩ := Prod.mk.inj (Except.ok.inj h)
    have c := encN_le (q.1 : Int)
    rw [encL_length]
    exact ⟨by omega, fun hi => b.2.2.2 (a.2 hi), c.2⟩
  ·obtain ⟨rfl, rfl⟩ := Prod.mk.inj (Except.ok.inj h)
   have c := encN_le (r.1 : Int)
   rw [encL_length]
   exact ⟨by omega, a.2, c.2⟩
theorem escapeL_le {l : List UInt8} {i : Nat} {t : List UInt8} {k : Nat} (h : escapeL l i = .ok (t, k)) : i + 2 ≤ k ∧ k ≤ l.length ∧ i + t.length ≤ k := by
 unfold escapeL at h
 split at h
 ·rename_i g
  have g1 := hasAt_lt g
  split at h
  ·rename_i g2
   have g3 := hasAt_lt g2
   have a := pointL_le h
   exact ⟨by omega, a.2.1 (by omega), by omega⟩
  ·split at h
   ·rename_i g2
    have g3 := hasAt_lt g2
    cases h
    exact ⟨by omega, by omega, by simp⟩
   ·cases h
 ·cases h

/-- A string from a place within it on. -/
def textF (l : List UInt8) (fr : Nat) : Nat → Nat → List UInt8 → Tk
 | 0, i, _ => .error (i + 1)
 | f + 1, i, out =>
  match plainL l i with
  | .error n => .error n
  | .ok e => if hasAt l e (· == 34) = true then .ok ⟨1, out ++ sub l i e, fr, e + 1⟩ else
   match escapeL l e with
   | .error n => .error n
   | .ok r => textF l fr f r.2 (out ++ sub l i e ++ r.1)
def textL (l : List UInt8) (i : Nat) : Tk := textF l i (l.length + 1) (i + 1) []
theorem plainL_le {l : List UInt8} {i e : Nat} (h : plainL l i = .ok e) : e = pass l plainB i ∧ i ≤ e ∧ (i ≤ l.length → e ≤ l.length) := by
 unfold plainL at h
 split at h
 ·cases h; exact ⟨rfl, pass_ge _ _ _, pass_le⟩
 ·cases h

/-- Bytes as cells. -/
def cellsL (t : List UInt8) : List Value := t.map fun c => .int .u8 (c.toNat : Nat)
theorem cells_cat (a b : List UInt8) : cellsL a ++ cellsL b = cellsL (a ++ b) := by simp [cellsL]
theorem vals_bx (t : List UInt8) : vals t.length (bx t) = cellsL t := by
 apply List.ext_getElem?
 intro i
 by_cases h : i < t.length
 ·rw [vals_at _ _ _ h]; simp [cellsL, bx, h]
 ·rw [List.getElem?_eq_none (by rw [vals_length]; omega), List.getElem?_eq_none (by simp [cellsL]; omega)]
theorem own_below {w w' : World} {base : Nat} {e : TypeId} {size : Nat} {v : Value} {n : Nat} {xs : List Value} (h : w.ownsRow base e size v n xs) (hb : Below w.heap.size w w') : w'.ownsRow base e size v n xs := by
 refine ⟨h.1, ?_⟩
 rcases h.2 with h2 | ⟨g, cap, cur, rfl, h3, h4, h5⟩
 ·exact .inl h2
 ·refine .inr ⟨g, cap, cur, rfl, h3, ?_, h5⟩
  have hlt : g < w.heap.size := by
   by_cases z : g < w.heap.size
   ·exact z
   ·rw [Array.getElem?_eq_none (by omega)] at h4; cases h4
  rw [hb.block g hlt]; exact h4
theorem own_byt {w : World} {base : Nat} {v : Value} {t : List UInt8} (h : w.ownsRow base 5 1 v t.length (cellsL t)) : Byt w v t := by
 rw [← vals_bx] at h
 exact Row.of_own (bx_lo t) (bx_hi t) h
end Go.Proofs.YtjdboekanmfgpaaGreatDoor.Lx

namespace Go.Proofs.YtjdboekanmfgpaaGreatDoor
open Go.RowKit Go.Lib

/-- Lists and texts of at most 2^30. -/
inductive Sm : JV → Prop
 | mk {k : Int} {n : Bool} {g : ByteArray} {e : Int} {t : ByteArray} {l : List JV} {ks : List ByteArray} (h1 : l.length ≤ 1073741824) (h2 : ks.length ≤ 1073741824) (h3 : ∀ c ∈ l, Sm c) (h4 : g.size ≤ 1073741824) (h5 : t.size ≤ 1073741824) (h6 : ∀ s ∈ ks, s.size ≤ 1073741824) : Sm (.mk k n g e t l ks)
/-- A valid text. -/
def utB (s : ByteArray) : Bool := (Lx.goodL s.data.toList).2
/-- It has what other kinds have. -/
def othB (k : Int) (n : Bool) (g : ByteArray) (e : Int) (t : ByteArray) (ll kl : Nat) : Bool :=
 (!(k == 3) && !eqD n g e false ⟨#[]⟩ 0) || (!(k == 4) && !decide (t = ⟨#[]⟩)) || (!(k == 6) && decide (0 < kl)) || (!(k == 5) && !(k == 6) && decide (0 < ll))
/-- Its keys are an object's. -/
def keyB (k : Int) (ll : Nat) (ks : List ByteArray) : Bool := !(k == 6) || (decide (ks.length = ll) && ks.all utB && decide ks.Nodup)
def fitB (k : Int) (n : Bool) (g : ByteArray) (e : Int) (t : ByteArray) (ll : Nat) (ks : List ByteArray) : Bool :=
 decide (0 ≤ k) && (decide (k ≤ 6) && (!othB k n g e t ll ks.length && (goodB n g e && (utB t && keyB k ll ks))))
mutual
/-- It may be, with so many levels. -/
def mayB : Nat → JV → Bool
 | d, .mk k n g e t l ks => !((k == 5 || k == 6) && d == 0) && (fitB k n g e t l.length ks && mayBL (d - 1) l)
def mayBL : Nat → List JV → Bool
 | _, [] => true
 | d, v :: r => mayB d v && mayBL d r
end
theorem mayBL_mem {d : Nat} : ∀ {l : List JV}, mayBL d l = true → ∀ v ∈ l, mayB d v = true
 | [], _, v, h => absurd h (by simp)
 | a :: l, h, v, hv => by
  unfold mayBL at h
  rw [Bool.and_eq_true] at h
  rcases List.mem_cons.1 hv with rfl | hv
  ·exact h.1
  ·exact mayBL_mem h.2 v hv
end Go.Proofs.YtjdboekanmfgpaaGreatDoor
