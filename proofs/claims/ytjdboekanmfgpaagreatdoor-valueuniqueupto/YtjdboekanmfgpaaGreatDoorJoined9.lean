/-
  What lex.digits, lex.whole, lex.exponent and lex.spelled answer. Conditions: the bytes lie in memory, at most 2^48 of them.
  What lex.spelled, lex.asItStands and lex.word answer. Conditions: the bytes lie in memory, at most 2^48 of them.
  What lex.word and lex.number answer. Conditions: the bytes lie in memory, at most 2^48 of them.
-/
import Derived.Test.YtjdboekanmfgpaaGreatDoorJoined8
namespace Go.Proofs.YtjdboekanmfgpaaGreatDoor.Lx
open Go.RowKit
attribute [local go_sem] setCell_drewN alloc_drewN

/-- lex.standsAt of what stands in a literal. -/
theorem stands_ws (l : List UInt8) (i : Nat) (v : Value) (ws : List UInt8) (cs : Array Value) (n : Nat) (p : Int → Bool) (x : Bool) (w : World) (hc : cs = (ws.map fun c => Value.int .u8 (c.toNat : Nat)).toArray) (hn : n = ws.length) (hw : ws.length ≤ 1000)
  (b : Nat) (hb : w.heap.size = b) (hB : Byt w v l) (hi : i ≤ l.length) (hm : l.length ≤ 281474976710656) (hp : ∀ c, (ws.any fun d => c == (d.toNat : Int)) = p c) (hx : hasAt l i p = x) :
  Calls Tryz.prog 194 #[v, .int .i64 i, .slice (some ⟨b, 0, none⟩) n n] (w.alloc (.cells cs 5)) fun r w' => r = .returned (.bool x) ∧ w' = w.alloc (.cells cs 5) := by
 subst hc hn hx hb
 exact standsAt_any l i v _ _ _ p _ (Row.alloc hB _) (row_ws w ws 5 hw) hi hm (fun c => by rw [anyF_ws, hp])

set_option maxHeartbeats 400000 in
theorem digits_any (l : List UInt8) (i : Nat) (v : Value) (w : World) (hB : Byt w v l) (hi : i ≤ l.length) (hm : l.length ≤ 281474976710656) :
  Calls Tryz.prog 195 #[v, .int .i64 i] w fun r w' => r = .returned (plV (digitsL l i)) ∧ Below w.heap.size w w' := by
 have h1 := taken_digit l i v digitB w hB hi hm (fun c => isDigit_any c w)
 cases h : hasAt l i digitB
 ·have e : takenL l i digitB = .error (i + 1) := by simp [takenL, h]
  have HR : Hid (digitsL l i = .error (i + 1)) := by show _ = _; simp [digitsL, h]
  rw [e] at h1
  simp only [plV, errV] at h1
  clear h e
  go_enter Tryz.func195, Tryz.ntmps195
  go_wp2_with (go_at_call 207; refine h1.mono ?_; rintro r w2 ⟨rfl, hb2⟩)
  go_ret2
  exact ⟨r_pl (by rw [HR.out]; rfl), hb2⟩
 ·have hl := hasAt_lt h
  have e : takenL l i digitB = .ok (i + 1) := by simp [takenL, h]
  have HR : Hid (digitsL l i = .ok (pass l digitB (i + 1))) := by show _ = _; simp [digitsL, h]
  rw [e] at h1
  simp only [plV] at h1
  have h2 := fun w' (hb : Below w.heap.size w w') => passed_digit l (i + 1) v w' (hB.below hb) hl hm
  clear h e
  go_enter Tryz.func195, Tryz.ntmps195
  go_wp2_with (first | (go_at_call 207; refine h1.mono ?_; rintro r w2 ⟨rfl, hb2⟩) | (go_at_call 138; refine (h2 _ hb2).mono ?_; rintro r w3 ⟨rfl, hb3⟩))
  go_ret2
  exact ⟨r_pl (by rw [HR.out]; rfl), bl_t hb2 hb3⟩

set_option maxHeartbeats 800000 in
theorem whole_any (l : List UInt8) (i : Nat) (v : Value) (w : World) (hB : Byt w v l) (hi : i ≤ l.length) (hm : l.length ≤ 281474976710656) :
  Calls Tryz.prog 193 #[v, .int .i64 i] w fun r w' => r = .returned (plV (wholeL l i)) ∧ Below w.heap.size w w' := by
 have hiI : (i : Int) ≤ 281474976710656 := by omega
 cases h : hasAt l i (· == 45)
 ·have ea : aft l i (· == 45) = i := by simp [aft, h]
  have s1 := fun (w' : World) (b' : Nat) (hk : w'.heap.size = b') (hb : Byt w' v l) => (show Calls Tryz.prog 194 #[v, .int .i64 (i : Int), .slice (some ⟨b', 0, none⟩) 1 1] (w'.alloc (.cells #[.int .u8 45] 5)) fun r w2 => r = .returned (.bool false) ∧ w2 = w'.alloc (.cells #[.int .u8 45] 5) from by have := stands_ws l i v [45] #[.int .u8 45] 1 (· == 45) false w' rfl rfl (by decide) b' hk hb (by omega) hm (fun c => by simp) (by assumption); simpa using this)
  cases h2 : hasAt l i (· == 48)
  ·have s2 := fun (w' : World) (b' : Nat) (hk : w'.heap.size = b') (hb : Byt w' v l) => (show Calls Tryz.prog 194 #[v, .int .i64 (i : Int), .slice (some ⟨b', 0, none⟩) 1 1] (w'.alloc (.cells #[.int .u8 48] 5)) fun r w2 => r = .returned (.bool false) ∧ w2 = w'.alloc (.cells #[.int .u8 48] 5) from by have := stands_ws l i v [48] #[.int .u8 48] 1 (· == 48) false w' rfl rfl (by decide) b' hk hb (by omega) hm (fun c => by simp) (by assumption); simpa using this)
   have HR : Hid (wholeL l i = digitsL l i) := by show _ = _; simp [wholeL, ea, h2]
   have h3 := fun w' (hb : Byt w' v l) => (show Calls Tryz.prog 195 #[v, .int .i64 (i : Int)] w' fun r w2 => r = .returned (plV (digitsL l i)) ∧ Below w'.heap.size w' w2 from by have := digits_any l i v w' hb (by omega) hm; simpa using this)
   clear h h2 ea
   cases hd : digitsL l i with
   | error n =>
    rw [hd] at h3
    simp only [plV, errV] at h3
    have hB1 : Byt (w.alloc (.cells #[.int .u8 45] 5)) v l := Row.alloc hB _
    have hB2 : Byt ((w.alloc (.cells #[.int .u8 45] 5)).alloc (.cells #[.int .u8 48] 5)) v l := Row.alloc hB1 _
    go_enter Tryz.func193, Tryz.ntmps193
    go_wp2_with (first | (go_at_call 194; with_reducible refine (s1 _ _ rfl hB).mono ?_; rintro r w2 ⟨rfl, rfl⟩) | (go_at_call 194; with_reducible refine (s2 _ _ (by simp) hB1).mono ?_; rintro r w2 ⟨rfl, rfl⟩) | (go_at_call 195; refine (h3 _ hB2).mono ?_; rintro r w3 ⟨rfl, hb3⟩))
    go_ret2
    exact ⟨r_pl (by rw [HR.out, hd]; rfl), bl_t (bl_a (bl_a (Below.refl _ _) _) _) hb3⟩
   | ok k =>
    rw [hd] at h3
    simp only [plV] at h3
    have hB1 : Byt (w.alloc (.cells #[.int .u8 45] 5)) v l := Row.alloc hB _
    have hB2 : Byt ((w.alloc (.cells #[.int .u8 45] 5)).alloc (.cells #[.int .u8 48] 5)) v l := Row.alloc hB1 _
    go_enter Tryz.func193, Tryz.ntmps193
    go_wp2_with (first | (go_at_call 194; with_reducible refine (s1 _ _ rfl hB).mono ?_; rintro r w2 ⟨rfl, rfl⟩) | (go_at_call 194; with_reducible refine (s2 _ _ (by simp) hB1).mono ?_; rintro r w2 ⟨rfl, rfl⟩) | (go_at_call 195; refine (h3 _ hB2).mono ?_; rintro r w3 ⟨rfl, hb3⟩))
    go_ret2
    exact ⟨r_pl (by rw [HR.out, hd]; rfl), bl_t (bl_a (bl_a (Below.refl _ _) _) _) hb3⟩
  ·have s2 := fun (w' : World) (b' : Nat) (hk : w'.heap.size = b') (hb : Byt w' v l) => (show Calls Tryz.prog 194 #[v, .int .i64 (i : Int), .slice (some ⟨b', 0, none⟩) 1 1] (w'.alloc (.cells #[.int .u8 48] 5)) fun r w2 => r = .returned (.bool true) ∧ w2 = w'.alloc (.cells #[.int .u8 48] 5) from by have := stands_ws l i v [48] #[.int .u8 48] 1 (· == 48) true w' rfl rfl (by decide) b' hk hb (by omega) hm (fun c => by simp) (by assumption); simpa using this)
   have HR : Hid (wholeL l i = .ok (i + 1)) := by show _ = _; simp [wholeL, ea, h2]
   have hl2 := hasAt_lt h2
   have hB1 : Byt (w.alloc (.cells #[.int .u8 45] 5)) v l := Row.alloc hB _
   clear h h2 ea
   go_enter Tryz.func193, Tryz.ntmps193
   go_wp2_with (first | (go_at_call 194; with_reducible refine (s1 _ _ rfl hB).mono ?_; rintro r w2 ⟨rfl, rfl⟩) | (go_at_call 194; with_reducible refine (s2 _ _ (by simp) hB1).mono ?_; rintro r w2 ⟨rfl, rfl⟩))
   go_ret2
   exact ⟨r_pl (by rw [HR.out]; simp [plV]), bl_a (bl_a (Below.refl _ _) _) _⟩
 ·have ea : aft l i (· == 45) = (i + 1) := by simp [aft, h]
  have hl := hasAt_lt h
  have s1 := fun (w' : World) (b' : Nat) (hk : w'.heap.size = b') (hb : Byt w' v l) => (show Calls Tryz.prog 194 #[v, .int .i64 (i : Int), .slice (some ⟨b', 0, none⟩) 1 1] (w'.alloc (.cells #[.int .u8 45] 5)) fun r w2 => r = .returned (.bool true) ∧ w2 = w'.alloc (.cells #[.int .u8 45] 5) from by have := stands_ws l i v [45] #[.int .u8 45] 1 (· == 45) true w' rfl rfl (by decide) b' hk hb (by omega) hm (fun c => by simp) (by assumption); simpa using this)
  cases h2 : hasAt l (i + 1) (· == 48)
  ·have s2 := fun (w' : World) (b' : Nat) (hk : w'.heap.size = b') (hb : Byt w' v l) => (show Calls Tryz.prog 194 #[v, .int .i64 ((i : Int) + 1), .slice (some ⟨b', 0, none⟩) 1 1] (w'.alloc (.cells #[.int .u8 48] 5)) fun r w2 => r = .returned (.bool false) ∧ w2 = w'.alloc (.cells #[.int .u8 48] 5) from by have := stands_ws l (i + 1) v [48] #[.int .u8 48] 1 (· == 48) false w' rfl rfl (by decide) b' hk hb (by omega) hm (fun c => by simp) (by assumption); simpa using this)
   have HR : Hid (wholeL l i = digitsL l (i + 1)) := by show _ = _; simp [wholeL, ea, h2]
   have h3 := fun w' (hb : Byt w' v l) => (show Calls Tryz.prog 195 #[v, .int .i64 ((i : Int) + 1)] w' fun r w2 => r = .returned (plV (digitsL l (i + 1))) ∧ Below w'.heap.size w' w2 from by have := digits_any l (i + 1) v w' hb (by omega) hm; simpa using this)
   clear h h2 ea
   cases hd : digitsL l (i + 1) with
   | error n =>
    rw [hd] at h3
    simp only [plV, errV] at h3
    have hB1 : Byt (w.alloc (.cells #[.int .u8 45] 5)) v l := Row.alloc hB _
    have hB2 : Byt ((w.alloc (.cells #[.int .u8 45] 5)).alloc (.cells #[.int .u8 48] 5)) v l := Row.alloc hB1 _
    go_enter Tryz.func193, Tryz.ntmps193
    go_wp2_with (first | (go_at_call 194; with_reducible refine (s1 _ _ rfl hB).mono ?_; rintro r w2 ⟨rfl, rfl⟩) | (go_at_call 194; with_reducible refine (s2 _ _ (by simp) hB1).mono ?_; rintro r w2 ⟨rfl, rfl⟩) | (go_at_call 195; refine (h3 _ hB2).mono ?_; rintro r w3 ⟨rfl, hb3⟩))
    go_ret2
    exact ⟨r_pl (by rw [HR.out, hd]; rfl), bl_t (bl_a (bl_a (Below.refl _ _) _) _) hb3⟩
   | ok k =>
    rw [hd] at h3
    simp only [plV] at h3
    have hB1 : Byt (w.alloc (.cells #[.int .u8 45] 5)) v l := Row.alloc hB _
    have hB2 : Byt ((w.alloc (.cells #[.int .u8 45] 5)).alloc (.cells #[.int .u8 48] 5)) v l := Row.alloc hB1 _
    go_enter Tryz.func193, Tryz.ntmps193
    go_wp2_with (first | (go_at_call 194; with_reducible refine (s1 _ _ rfl hB).mono ?_; rintro r w2 ⟨rfl, rfl⟩) | (go_at_call 194; with_reducible refine (s2 _ _ (by simp) hB1).mono ?_; rintro r w2 ⟨rfl, rfl⟩) | (go_at_call 195; refine (h3 _ hB2).mono ?_; rintro r w3 ⟨rfl, hb3⟩))
    go_ret2
    exact ⟨r_pl (by rw [HR.out, hd]; rfl), bl_t (bl_a (bl_a (Below.refl _ _) _) _) hb3⟩
  ·have s2 := fun (w' : World) (b' : Nat) (hk : w'.heap.size = b') (hb : Byt w' v l) => (show Calls Tryz.prog 194 #[v, .int .i64 ((i : Int) + 1), .slice (some ⟨b', 0, none⟩) 1 1] (w'.alloc (.cells #[.int .u8 48] 5)) fun r w2 => r = .returned (.bool true) ∧ w2 = w'.alloc (.cells #[.int .u8 48] 5) from by have := stands_ws l (i + 1) v [48] #[.int .u8 48] 1 (· == 48) true w' rfl rfl (by decide) b' hk hb (by omega) hm (fun c => by simp) (by assumption); simpa using this)
   have HR : Hid (wholeL l i = .ok ((i + 1) + 1)) := by show _ = _; simp [wholeL, ea, h2]
   have hl2 := hasAt_lt h2
   have hB1 : Byt (w.alloc (.cells #[.int .u8 45] 5)) v l := Row.alloc hB _
   clear h h2 ea
   go_enter Tryz.func193, Tryz.ntmps193
   go_wp2_with (first | (go_at_call 194; with_reducible refine (s1 _ _ rfl hB).mono ?_; rintro r w2 ⟨rfl, rfl⟩) | (go_at_call 194; with_reducible refine (s2 _ _ (by simp) hB1).mono ?_; rintro r w2 ⟨rfl, rfl⟩))
   go_ret2
   exact ⟨r_pl (by rw [HR.out]; simp [plV]), bl_a (bl_a (Below.refl _ _) _) _⟩

set_option maxHeartbeats 800000 in
theorem exponent_any (l : List UInt8) (i : Nat) (v : Value) (w : World) (hB : Byt w v l) (hi : i ≤ l.length) (hm : l.length ≤ 281474976710656) :
  Calls Tryz.prog 196 #[v, .int .i64 i] w fun r w' => r = .returned (plV (exponentL l i)) ∧ Below w.heap.size w w' := by
 have hiI : (i : Int) ≤ 281474976710656 := by omega
 have hB1 : Byt (w.alloc (.cells #[.int .u8 43, .int .u8 45] 5)) v l := Row.alloc hB _
 cases h : hasAt l i (fun c => c == 43 || c == 45)
 ·have ea : aft l i (fun c => c == 43 || c == 45) = i := by simp [aft, h]
  have s1 := fun (w' : World) (b' : Nat) (hk : w'.heap.size = b') (hb : Byt w' v l) => (show Calls Tryz.prog 194 #[v, .int .i64 (i : Int), .slice (some ⟨b', 0, none⟩) 2 2] (w'.alloc (.cells #[.int .u8 43, .int .u8 45] 5)) fun r w2 => r = .returned (.bool false) ∧ w2 = w'.alloc (.cells #[.int .u8 43, .int .u8 45] 5) from by have := stands_ws l i v [43, 45] #[.int .u8 43, .int .u8 45] 2 (fun c => c == 43 || c == 45) false w' rfl rfl (by decide) b' hk hb (by omega) hm (fun c => by simp) (by assumption); simpa using this)
  have HR : Hid (exponentL l i = digitsL l i) := by show _ = _; simp [exponentL, ea]
  have h3 := fun w' (hb : Byt w' v l) => (show Calls Tryz.prog 195 #[v, .int .i64 (i : Int)] w' fun r w2 => r = .returned (plV (digitsL l i)) ∧ Below w'.heap.size w' w2 from by have := digits_any l i v w' hb (by omega) hm; simpa using this)
  clear h ea
  cases hd : digitsL l i with
  | error n =>
   rw [hd] at h3
   simp only [plV, errV] at h3
   go_enter Tryz.func196, Tryz.ntmps196
   go_wp2_with (first | (go_at_call 194; with_reducible refine (s1 _ _ rfl hB).mono ?_; rintro r w2 ⟨rfl, rfl⟩) | (go_at_call 195; refine (h3 _ hB1).mono ?_; rintro r w3 ⟨rfl, hb3⟩))
   go_ret2
   exact ⟨r_pl (by rw [HR.out, hd]; rfl), bl_t (bl_a (Below.refl _ _) _) hb3⟩
  | ok k =>
   rw [hd] at h3
   simp only [plV] at h3
   go_enter Tryz.func196, Tryz.ntmps196
   go_wp2_with (first | (go_at_call 194; with_reducible refine (s1 _ _ rfl hB).mono ?_; rintro r w2 ⟨rfl, rfl⟩) | (go_at_call 195; refine (h3 _ hB1).mono ?_; rintro r w3 ⟨rfl, hb3⟩))
   go_ret2
   exact ⟨r_pl (by rw [HR.out, hd]; rfl), bl_t (bl_a (Below.refl _ _) _) hb3⟩
 ·have ea : aft l i (fun c => c == 43 || c == 45) = (i + 1) := by simp [aft, h]
  have hl := hasAt_lt h
  have s1 := fun (w' : World) (b' : Nat) (hk : w'.heap.size = b') (hb : Byt w' v l) => (show Calls Tryz.prog 194 #[v, .int .i64 (i : Int), .slice (some ⟨b', 0, none⟩) 2 2] (w'.alloc (.cells #[.int .u8 43, .int .u8 45] 5)) fun r w2 => r = .returned (.bool true) ∧ w2 = w'.alloc (.cells #[.int .u8 43, .int .u8 45] 5) from by have := stands_ws l i v [43, 45] #[.int .u8 43, .int .u8 45] 2 (fun c => c == 43 || c == 45) true w' rfl rfl (by decide) b' hk hb (by omega) hm (fun c => by simp) (by assumption); simpa using this)
  have HR : Hid (exponentL l i = digitsL l (i + 1)) := by show _ = _; simp [exponentL, ea]
  have h3 := fun w' (hb : Byt w' v l) => (show Calls Tryz.prog 195 #[v, .int .i64 ((i : Int) + 1)] w' fun r w2 => r = .returned (plV (digitsL l (i + 1))) ∧ Below w'.heap.size w' w2 from by have := digits_any l (i + 1) v w' hb (by omega) hm; simpa using this)
  clear h ea
  cases hd : digitsL l (i + 1) with
  | error n =>
   rw [hd] at h3
   simp only [plV, errV] at h3
   go_enter Tryz.func196, Tryz.ntmps196
   go_wp2_with (first | (go_at_call 194; with_reducible refine (s1 _ _ rfl hB).mono ?_; rintro r w2 ⟨rfl, rfl⟩) | (go_at_call 195; refine (h3 _ hB1).mono ?_; rintro r w3 ⟨rfl, hb3⟩))
   go_ret2
   exact ⟨r_pl (by rw [HR.out, hd]; rfl), bl_t (bl_a (Below.refl _ _) _) hb3⟩
  | ok k =>
   rw [hd] at h3
   simp only [plV] at h3
   go_enter Tryz.func196, Tryz.ntmps196
   go_wp2_with (first | (go_at_call 194; with_reducible refine (s1 _ _ rfl hB).mono ?_; rintro r w2 ⟨rfl, rfl⟩) | (go_at_call 195; refine (h3 _ hB1).mono ?_; rintro r w3 ⟨rfl, hb3⟩))
   go_ret2
   exact ⟨r_pl (by rw [HR.out, hd]; rfl), bl_t (bl_a (Below.refl _ _) _) hb3⟩

/-- The byte at a place of a text. -/
def cx (s : ByteArray) (i : Nat) : Int := if h : i < s.size then ((s[i]'h).toNat : Int) else 0
theorem cx_at (s : ByteArray) (i : Nat) (h : i < s.size) : ((s[i]'h).toNat : Int) = cx s i := by simp [cx, h]

set_option maxHeartbeats 400000 in
theorem letter_any (c : Int) (a b : Nat) (s : ByteArray) (k : Nat) (w : World) (ha : w.cell? ⟨a, 0, none⟩ = some (.string s)) (hb : w.cell? ⟨b, 0, none⟩ = some (.int .i64 k)) (hk : k < s.size) :
  Calls Tryz.prog 208 #[.int .u8 c, .pointer (some ⟨a, 0, none⟩), .pointer (some ⟨b, 0, none⟩)] w fun r w' => r = .returned (.bool (c == cx s k)) ∧ Below w.heap.size w w' := by
 have hx := cx_at s k hk
 have hkI : (k : Int) < (s.size : Int) := by omega
 generalize cx s k = x at *
 go_enter Tryz.func208, Tryz.ntmps208
 go_wp2
 go_ret
 exact ⟨rfl, Below.refl _ _⟩

set_option maxHeartbeats 400000 in
theorem taken_letter (a b : Nat) (l : List UInt8) (i : Nat) (v : Value) (p : Int → Bool) (w : World) (hB : Byt w v l) (hi : i ≤ l.length) (hm : l.length ≤ 281474976710656)
  (hf : ∀ c, Calls Tryz.prog 208 #[.int .u8 c, .pointer (some ⟨a, 0, none⟩), .pointer (some ⟨b, 0, none⟩)] w fun r w' => r = .returned (.bool (p c)) ∧ Below w.heap.size w w') :
  Calls Tryz.prog 207 #[v, .int .i64 i, .func (.func 208) #[] #[.pointer (some ⟨a, 0, none⟩), .pointer (some ⟨b, 0, none⟩)]] w fun r w' => r = .returned (plV (takenL l i p)) ∧ Below w.heap.size w w' := by
 have hmI : (l.length : Int) ≤ 281474976710656 := by omega
 have g1 := fun w => badAt_any i w (by omega)
 by_cases hlt : i < l.length
 ·rcases hB with ⟨h0, _⟩ | ⟨bb, off, cap, rfl, hc, hm', hL⟩
  ·omega
  ·have hcell := hL.cell i hlt
   have hI : (i : Int) < (l.length : Int) := by omega
   have h1 := hf (bx l i)
   cases hp : p (bx l i)
   ·rw [hp] at h1
    have HR : Hid (takenL l i p = .error (i + 1)) := by show _ = _; simp [takenL, hasAt_in p hlt, hp]
    clear hp hL hf hc hm'
    generalize bx l i = c at *
    go_enter Tryz.func207, Tryz.ntmps207
    go_wp2_with (first | (go_at_call 208; refine h1.mono ?_; rintro r w2 ⟨rfl, hb2⟩) | (go_at_call 180; refine (g1 _).mono ?_; rintro r w3 ⟨rfl, rfl⟩))
    go_ret2
    exact ⟨r_pl (by rw [HR.out]; rfl), hb2⟩
   ·rw [hp] at h1
    have HR : Hid (takenL l i p = .ok (i + 1)) := by show _ = _; simp [takenL, hasAt_in p hlt, hp]
    clear hp hL hf hc hm' g1
    generalize bx l i = c at *
    go_enter Tryz.func207, Tryz.ntmps207
    go_wp2_with (go_at_call 208; refine h1.mono ?_; rintro r w2 ⟨rfl, hb2⟩)
    go_ret2
    exact ⟨r_pl (by rw [HR.out]; simp [plV]), hb2⟩
 ·have hI : ¬ (i : Int) < (l.length : Int) := by omega
  have HR : Hid (takenL l i p = .error (i + 1)) := by show _ = _; simp [takenL, hasAt_out p hlt]
  obtain ⟨a, cap, rfl, _⟩ := hB.shape
  clear hB hf
  go_enter Tryz.func207, Tryz.ntmps207
  go_wp2_with (go_at_call 180; refine (g1 _).mono ?_; rintro r w3 ⟨rfl, rfl⟩)
  go_ret2
  exact ⟨r_pl (by rw [HR.out]; rfl), Below.refl _ _⟩
end Go.Proofs.YtjdboekanmfgpaaGreatDoor.Lx

namespace Go.Proofs.YtjdboekanmfgpaaGreatDoor.Lx
open Go.RowKit
attribute [local go_sem] setCell_drewN alloc_drewN

/-- A part of a list. -/
def sub (l : List UInt8) (a e : Nat) : List UInt8 := (l.drop a).take (e - a)
theorem sub_length {l : List UInt8} {a e : Nat} (h : a ≤ e) (h2 : e ≤ l.length) : (sub l a e).length = e - a := by simp [sub]; omega
theorem bx_sub {l : List UInt8} {a e i : Nat} (hi : i < e - a) : bx (sub l a e) i = bx l (a + i) := by
 unfold bx sub
 rw [List.getElem?_take_of_lt hi, List.getElem?_drop]
theorem bx_at {l : List UInt8} {j : Nat} (h : j < l.length) : ((l[j]).toNat : Int) = bx l j := by simp [bx, h]
theorem Lies.sub {w : World} {b off : Nat} {l : List UInt8} (h : Lies w b off l.length (bx l)) {a e : Nat} (hae : a ≤ e) (he : e ≤ l.length) : Lies w b (off + a) (e - a) (bx (sub l a e)) :=
 ⟨fun i hi => by rw [bx_sub hi, show off + a + i = off + (a + i) by omega]; exact h.cell (a + i) (by omega), bx_lo _, bx_hi _⟩
theorem byt_sub {w : World} {b off cap : Nat} {l : List UInt8} (h : Lies w b off l.length (bx l)) (hc : l.length ≤ cap) (hm : cap ≤ maxLen) {a e : Nat} (hae : a ≤ e) (he : e ≤ l.length) :
  Byt w (.slice (some ⟨b, off + a, none⟩) (e - a) (cap - a)) (sub l a e) := by
 unfold Byt
 rw [sub_length hae he]
 exact .inr ⟨b, off + a, cap - a, rfl, by omega, by omega, h.sub hae he⟩

/-- string(v) of bytes. -/
theorem conv_list (w : World) (v : Value) (l : List UInt8) (hR : Byt w v l) : (convert 50 9 v).run Tryz.prog w = .ok (.string ⟨l.toArray⟩) w := by
 rcases hR with ⟨h0, a, cap, rfl, _⟩ | ⟨b, off, cap, rfl, hc, hm, hL⟩
 ·obtain rfl : l = [] := List.length_eq_zero_iff.1 h0
  rcases a with _ | a
  ·exact run_convert_bytes_nil (P := Tryz.prog) w 50 5 Tryz.underlying50 Tryz.underlying5 0 cap 9 Tryz.underlying9
  ·exact run_convert_bytes_back (P := Tryz.prog) w 50 9 5 a cap [] Tryz.underlying50 Tryz.underlying5 Tryz.underlying9 (fun j hj => absurd hj (by simp))
 ·have hcell : ∀ j (hj : j < l.length), w.cell? ((⟨b, off, none⟩ : Addr).add j) = some (.int .u8 ((l[j]).toNat : Int)) := by
   intro j hj
   rw [bx_at hj, add_at]
   exact hL.cell j hj
  exact run_convert_bytes_back (P := Tryz.prog) w 50 9 5 ⟨b, off, none⟩ cap l Tryz.underlying50 Tryz.underlying5 Tryz.underlying9 hcell

/-- A token. -/
structure Tok where
 kind : Nat
 text : List UInt8
 fr : Nat
 to : Nat
def tokV (t : Tok) : Value := .agg #[.int .i64 t.kind, .string ⟨t.text.toArray⟩, .int .i64 t.fr, .int .i64 t.to]
abbrev Tk := Except Nat Tok
/-- A token, or the error, as they are returned. -/
def tkV : Tk → Value
 | .ok t => .tuple #[tokV t, .nilIface]
 | .error n => .tuple #[tokV ⟨0, [], 0, 0⟩, errV n]
def stands (kind : Nat) (l : List UInt8) (a : Nat) : Pl → Tk
 | .ok e => .ok ⟨kind, sub l a e, a, e⟩
 | .error n => .error n

set_option maxHeartbeats 400000 in
theorem asItStands_any (kind : Nat) (l : List UInt8) (a e : Nat) (v : Value) (w : World) (hB : Byt w v l) (h0 : a < l.length) (hae : a ≤ e) (he : e ≤ l.length) :
  Calls Tryz.prog 175 #[.int .i64 kind, v, .int .i64 a, .int .i64 e] w fun r w' => r = .returned (tokV ⟨kind, sub l a e, a, e⟩) ∧ Below w.heap.size w w' := by
 rcases hB with ⟨h, _⟩ | ⟨b, off, cap, rfl, hc, hm', hL⟩
 ·omega
 ·have hconv := fun o => conv_list (w.alloc o) _ _ (Byt.below (byt_sub hL hc hm' hae he) (bl_a (Below.refl _ _) o))
  have haI : (a : Int) ≤ (e : Int) := by omega
  have heI : (e : Int) ≤ (cap : Int) := by omega
  unfold maxLen at hm'
  have hcI : (cap : Int) ≤ 9223372036854775807 := by omega
  generalize sub l a e = t at *
  clear hL
  go_enter Tryz.func175, Tryz.ntmps175
  go_wp2
  refine bodyPost_ret (v := tokV ⟨kind, t, a, e⟩) ?_ rfl ?_
  all_goals first | (exact ⟨rfl, (by with_reducible repeat (first | exact Below.refl _ _ | refine bl_a ?_ _ | refine bl_s ?_ (by omega) _))⟩) | (simp [results, Tryz.results175, go_sem, tokV])

/-- The bytes of letters. -/
theorem cx_list (s : ByteArray) (k : Nat) (h : k < s.size) : ∃ c, s.data.toList.drop k = c :: s.data.toList.drop (k + 1) ∧ (c.toNat : Int) = cx s k :=
 ⟨s[k]'h, by rw [List.drop_eq_getElem_cons (by rw [Array.length_toList]; exact h)]; rfl, cx_at s k h⟩

set_option maxRecDepth 100000 in
set_option maxHeartbeats 1600000 in
theorem spelled_any (l : List UInt8) (i : Nat) (v : Value) (s : ByteArray) (w : World) (hB : Byt w v l) (hi : i ≤ l.length) (hm : l.length ≤ 281474976710656) (hs : s.size ≤ 1000) :
  Calls Tryz.prog 191 #[v, .int .i64 i, .string s] w fun r w' => r = .returned (plV (spelledL l i s.data.toList)) ∧ Below w.heap.size w w' := by
 have hiI : (i : Int) ≤ 281474976710656 := by omega
 have hsI : (s.size : Int) ≤ 1000 := by omega
 go_enter Tryz.func191, Tryz.ntmps191
 go_wp2
 go_loopw [1, 12] (fun t u wr => ∃ k : Nat, k ≤ s.size ∧ u = .int .i64 k ∧ t = .int .i64 ((i : Int) + (k : Int)) ∧ i + k ≤ l.length ∧ Hid (spelledL l (i + k) (s.data.toList.drop k) = spelledL l i s.data.toList) ∧ wr.cell? ⟨w.heap.size, 0, none⟩ = some (.string s) ∧ w.heap.size < wr.heap.size ∧ Below w.heap.size w wr) (fun _ u _ => s.size - (intOf u).toNat)
 case atStart => exact ⟨0, Nat.zero_le _, rfl, by simp, by omega, rfl, by simp [go_sem], by simp, bl_a (Below.refl _ _) _⟩
 case round =>
  obtain ⟨k, hk, rfl, rfl, hil, HP, hcs, hlt, hbel⟩ := hrel
  by_cases hks : k < s.size
  ·have hI : (k : Int) < (s.size : Int) := by omega
   obtain ⟨c, ec, ecx⟩ := cx_list s k hks
   have hB1 : Byt wr v l := hB.below hbel
   have hbl1 : Below wr.heap.size wr (wr.alloc (.cells #[.int .i64 k] 3)) := bl_a (Below.refl _ _) _
   have hca : (wr.alloc (.cells #[.int .i64 k] 3)).cell? ⟨w.heap.size, 0, none⟩ = some (.string s) := by rw [World.cell?_alloc_past _ _ _ (by omega)]; exact hcs
   have hcb : (wr.alloc (.cells #[.int .i64 k] 3)).cell? ⟨wr.heap.size, 0, none⟩ = some (.int .i64 k) := by simp [go_sem]
   have h1 := taken_letter w.heap.size wr.heap.size l (i + k) v (fun c => c == cx s k) _ (hB1.below hbl1) hil hm (fun c => letter_any c _ _ s k _ hca hcb hks)
   have e0 : ((i + k : Nat) : Int) = (i : Int) + (k : Int) := by omega
   rw [e0] at h1
   cases h : hasAt l (i + k) (fun c => c == cx s k)
   ·have e : takenL l (i + k) (fun c => c == cx s k) = .error (i + k + 1) := by simp [takenL, h]
    have HR : Hid (spelledL l i s.data.toList = .error (i + k + 1)) := by show _ = _; rw [← HP.out, ec, spelledL, ecx, h]; rfl
    rw [e] at h1
    simp only [plV, errV] at h1
    clear h e HP ec ecx hB1 hB hca hcb
    go_wp2_with (go_at_call 207; refine h1.mono ?_; rintro r w2 ⟨rfl, hb2⟩)
    go_ret2
    exact ⟨r_pl (by rw [HR.out]; rfl), bl_t (bl_a hbel _) hb2⟩
   ·have e : takenL l (i + k) (fun c => c == cx s k) = .ok (i + k + 1) := by simp [takenL, h]
    have HR : Hid (spelledL l (i + (k + 1)) (s.data.toList.drop (k + 1)) = spelledL l i s.data.toList) := by show _ = _; rw [← HP.out, ec, spelledL, ecx, h]; rfl
    have hl := hasAt_lt h
    rw [e] at h1
    simp only [plV] at h1
    clear h e HP ec ecx hB1 hcb
    go_wp2_with (go_at_call 207; refine h1.mono ?_; rintro r w2 ⟨rfl, hb2⟩)
    go_roundw
    case rel =>
     have z2 := hb2.size
     simp only [World.size_alloc] at z2
     exact ⟨k + 1, by omega, by go_num, by go_num, by omega, HR, by rw [hb2.cell (p := ⟨w.heap.size, 0, none⟩) (by simp; omega)]; exact hca, by omega, bl_t (bl_a hbel _) hb2⟩
    case measure => simp [intOf]; omega
  ·have hI : ¬ (k : Int) < (s.size : Int) := by omega
   have ek : k = s.size := by omega
   have HR : Hid (spelledL l i s.data.toList = .ok (i + k)) := by
    show _ = _
    rw [← HP.out, List.drop_eq_nil_of_le (by rw [Array.length_toList]; exact Nat.le_of_eq ek.symm)]; rfl
   clear HP hB ek
   go_wp2
   go_ret2
   exact ⟨r_pl (by rw [HR.out]; simp [plV]), hbel⟩
end Go.Proofs.YtjdboekanmfgpaaGreatDoor.Lx

namespace Go.Proofs.YtjdboekanmfgpaaGreatDoor.Lx
open Go.RowKit
attribute [local go_sem] setCell_drewN alloc_drewN

theorem bcell {W w1 : World} (hb : Below W.heap.size W w1) : (∀ b o, b < W.heap.size → w1.cell? ⟨b, o, none⟩ = W.cell? ⟨b, o, none⟩) ∧ (∀ b o, b < W.heap.size → w1.frozen? ⟨b, o, none⟩ = W.frozen? ⟨b, o, none⟩) :=
 ⟨fun b o h => hb.cell (p := ⟨b, o, none⟩) h, fun b o h => hb.frozen (p := ⟨b, o, none⟩) h⟩

/-- The cell of a token's result behind a call. -/
theorem keepT {w w' : World} (h : Below (w.alloc (.cells #[.int .i64 0, .string ⟨#[]⟩, .int .i64 0, .int .i64 0] 120)).heap.size (w.alloc (.cells #[.int .i64 0, .string ⟨#[]⟩, .int .i64 0, .int .i64 0] 120)) w') :
  (∀ o, w'.cell? ⟨w.heap.size, o, none⟩ = #[Value.int .i64 0, .string ⟨#[]⟩, .int .i64 0, .int .i64 0][o]?) ∧ (∀ o, w'.frozen? ⟨w.heap.size, o, none⟩ = false) ∧ w.heap.size < w'.heap.size := by
 have z := h.size
 simp only [World.size_alloc] at z
 refine ⟨fun o => ?_, fun o => ?_, by omega⟩
 ·rw [h.cell (p := ⟨w.heap.size, o, none⟩) (by simp only [World.size_alloc]; omega)]
  simp [go_sem]
 ·rw [h.frozen (p := ⟨w.heap.size, o, none⟩) (by simp only [World.size_alloc]; omega)]
  simp [go_sem]

set_option maxRecDepth 100000 in
set_option maxHeartbeats 800000 in
theorem word_any (l : List UInt8) (i : Nat) (v : Value) (s : ByteArray) (w : World) (hB : Byt w v l) (hi : i < l.length) (hm : l.length ≤ 281474976710656) (hs : s.size ≤ 1000) :
  Calls Tryz.prog 176 #[v, .int .i64 i, .string s] w fun r w' => r = .returned (tkV (stands 3 l i (spelledL l i s.data.toList))) ∧ Below w.heap.size w w' := by
 have hB0 : Byt (w.alloc (.cells #[.int .i64 0, .string ⟨#[]⟩, .int .i64 0, .int .i64 0] 120)) v l := Row.alloc hB _
 have h1 := spelled_any l i v s _ hB0 (by omega) hm hs
 cases hd : spelledL l i s.data.toList with
 | error n =>
  rw [hd] at h1
  simp only [plV, errV] at h1
  clear hd
  go_enter Tryz.func176, Tryz.ntmps176
  go_wp2_with (go_at_call 191; refine h1.mono ?_; rintro r w2 ⟨rfl, hb2⟩; obtain ⟨kc, kf, kz⟩ := keepT hb2)
  refine bodyPost_ret (v := .tuple #[tokV ⟨0, [], 0, 0⟩, errV n]) ?_ rfl ?_
  all_goals first | (exact ⟨rfl, (by with_reducible repeat (first | exact Below.refl _ _ | refine bl_t ?_ hb2 | refine bl_a ?_ _ | refine bl_s ?_ (by omega) _))⟩) | (simp [results, Tryz.results176, go_sem, tokV, errV, kc])
 | ok e =>
  rw [hd] at h1
  simp only [plV] at h1
  obtain ⟨e1, e2⟩ := spelledL_le _ hd
  have e3 := e2 (by omega)
  have h2 := fun w' (hb : Byt w' v l) => asItStands_any 3 l i e v w' hb hi (by omega) e3
  simp only [tokV] at h2
  clear hd e1 e2
  obtain ⟨t, ht⟩ : ∃ t, sub l i e = t := ⟨_, rfl⟩
  have HT : Hid (sub l i e = t) := ht
  rw [ht] at h2
  clear ht
  go_enter Tryz.func176, Tryz.ntmps176
  go_wp2_with (first | (go_at_call 191; refine h1.mono ?_; rintro r w2 ⟨rfl, hb2⟩; have hB2 := hB0.below hb2) | (go_at_call 175; refine (h2 _ hB2).mono ?_; rintro r w3 ⟨rfl, hb3⟩; obtain ⟨kc, kf, kz⟩ := keepT (bl_t hb2 hb3)))
  refine bodyPost_ret (v := .tuple #[tokV ⟨3, t, i, e⟩, .nilIface]) ?_ rfl ?_
  all_goals first | (exact ⟨by rw [← HT.out]; rfl, (by with_reducible repeat (first | exact Below.refl _ _ | refine bl_t ?_ hb3 | refine bl_t ?_ hb2 | refine bl_a ?_ _ | refine bl_s ?_ (by omega) _))⟩) | (simp [results, Tryz.results176, go_sem, tokV, kc])
end Go.Proofs.YtjdboekanmfgpaaGreatDoor.Lx
