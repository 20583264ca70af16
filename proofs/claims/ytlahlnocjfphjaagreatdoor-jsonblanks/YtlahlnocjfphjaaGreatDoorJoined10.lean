/-
  What lex.digits, lex.whole, lex.exponent and lex.spelled answer. Conditions: the bytes lie in memory, at most 2^48 of them.
-/
import Derived.Test.YtlahlnocjfphjaaGreatDoorJoined8
namespace Go.Proofs.YtlahlnocjfphjaaGreatDoor.Lx
open Go.RowKit
attribute [local go_sem] setCell_drewN alloc_drewN

/-- lex.standsAt of what stands in a literal. -/
theorem stands_ws (l : List UInt8) (i : Nat) (v : Value) (ws : List UInt8) (cs : Array Value) (n : Nat) (p : Int → Bool) (x : Bool) (w : World) (hc : cs = (ws.map fun c => Value.int .u8 (c.toNat : Nat)).toArray) (hn : n = ws.length) (hw : ws.length ≤ 1000)
    (b : Nat) (hb : w.heap.size = b) (hB : Byt w v l) (hi : i ≤ l.length) (hm : l.length ≤ 281474976710656) (hp : ∀ c, (ws.any fun d => c == (d.toNat : Int)) = p c) (hx : hasAt l i p = x) :
    Calls Tryz.prog 69 #[v, .int .i64 i, .slice (some ⟨b, 0, none⟩) n n] (w.alloc (.cells cs 5)) fun r w' => r = .returned (.bool x) ∧ w' = w.alloc (.cells cs 5) := by
  subst hc hn hx hb
  exact standsAt_any l i v _ _ _ p _ (Row.alloc hB _) (row_ws w ws 5 hw) hi hm (fun c => by rw [anyF_ws, hp])

set_option maxHeartbeats 400000 in
theorem digits_any (l : List UInt8) (i : Nat) (v : Value) (w : World) (hB : Byt w v l) (hi : i ≤ l.length) (hm : l.length ≤ 281474976710656) :
    Calls Tryz.prog 70 #[v, .int .i64 i] w fun r w' => r = .returned (plV (digitsL l i)) ∧ Below w.heap.size w w' := by
  have h1 := taken_digit l i v digitB w hB hi hm (fun c => isDigit_any c w)
  cases h : hasAt l i digitB
  · have e : takenL l i digitB = .error (i + 1) := by simp [takenL, h]
    have HR : Hid (digitsL l i = .error (i + 1)) := by show _ = _; simp [digitsL, h]
    rw [e] at h1
    simp only [plV, errV] at h1
    clear h e
    go_enter Tryz.func70, Tryz.ntmps70
    go_wp2_with (go_at_call 93; refine h1.mono ?_; rintro r w2 ⟨rfl, hb2⟩)
    go_ret2
    exact ⟨r_pl (by rw [HR.out]; rfl), hb2⟩
  · have hl := hasAt_lt h
    have e : takenL l i digitB = .ok (i + 1) := by simp [takenL, h]
    have HR : Hid (digitsL l i = .ok (pass l digitB (i + 1))) := by show _ = _; simp [digitsL, h]
    rw [e] at h1
    simp only [plV] at h1
    have h2 := fun w' (hb : Below w.heap.size w w') => passed_digit l (i + 1) v w' (hB.below hb) hl hm
    clear h e
    go_enter Tryz.func70, Tryz.ntmps70
    go_wp2_with (first | (go_at_call 93; refine h1.mono ?_; rintro r w2 ⟨rfl, hb2⟩) | (go_at_call 28; refine (h2 _ hb2).mono ?_; rintro r w3 ⟨rfl, hb3⟩))
    go_ret2
    exact ⟨r_pl (by rw [HR.out]; rfl), bl_t hb2 hb3⟩

set_option maxHeartbeats 800000 in
theorem whole_any (l : List UInt8) (i : Nat) (v : Value) (w : World) (hB : Byt w v l) (hi : i ≤ l.length) (hm : l.length ≤ 281474976710656) :
    Calls Tryz.prog 68 #[v, .int .i64 i] w fun r w' => r = .returned (plV (wholeL l i)) ∧ Below w.heap.size w w' := by
  have hiI : (i : Int) ≤ 281474976710656 := by omega
  cases h : hasAt l i (· == 45)
  · have ea : aft l i (· == 45) = i := by simp [aft, h]
    have s1 := fun (w' : World) (b' : Nat) (hk : w'.heap.size = b') (hb : Byt w' v l) => (show Calls Tryz.prog 69 #[v, .int .i64 (i : Int), .slice (some ⟨b', 0, none⟩) 1 1] (w'.alloc (.cells #[.int .u8 45] 5)) fun r w2 => r = .returned (.bool false) ∧ w2 = w'.alloc (.cells #[.int .u8 45] 5) from by have := stands_ws l i v [45] #[.int .u8 45] 1 (· == 45) false w' rfl rfl (by decide) b' hk hb (by omega) hm (fun c => by simp) (by assumption); simpa using this)
    cases h2 : hasAt l i (· == 48)
    · have s2 := fun (w' : World) (b' : Nat) (hk : w'.heap.size = b') (hb : Byt w' v l) => (show Calls Tryz.prog 69 #[v, .int .i64 (i : Int), .slice (some ⟨b', 0, none⟩) 1 1] (w'.alloc (.cells #[.int .u8 48] 5)) fun r w2 => r = .returned (.bool false) ∧ w2 = w'.alloc (.cells #[.int .u8 48] 5) from by have := stands_ws l i v [48] #[.int .u8 48] 1 (· == 48) false w' rfl rfl (by decide) b' hk hb (by omega) hm (fun c => by simp) (by assumption); simpa using this)
      have HR : Hid (wholeL l i = digitsL l i) := by show _ = _; simp [wholeL, ea, h2]
      have h3 := fun w' (hb : Byt w' v l) => (show Calls Tryz.prog 70 #[v, .int .i64 (i : Int)] w' fun r w2 => r = .returned (plV (digitsL l i)) ∧ Below w'.heap.size w' w2 from by have := digits_any l i v w' hb (by omega) hm; simpa using this)
      clear h h2 ea
      cases hd : digitsL l i with
      | error n =>
        rw [hd] at h3
        simp only [plV, errV] at h3
        have hB1 : Byt (w.alloc (.cells #[.int .u8 45] 5)) v l := Row.alloc hB _
        have hB2 : Byt ((w.alloc (.cells #[.int .u8 45] 5)).alloc (.cells #[.int .u8 48] 5)) v l := Row.alloc hB1 _
        go_enter Tryz.func68, Tryz.ntmps68
        go_wp2_with (first | (go_at_call 69; with_reducible refine (s1 _ _ rfl hB).mono ?_; rintro r w2 ⟨rfl, rfl⟩) | (go_at_call 69; with_reducible refine (s2 _ _ (by simp) hB1).mono ?_; rintro r w2 ⟨rfl, rfl⟩) | (go_at_call 70; refine (h3 _ hB2).mono ?_; rintro r w3 ⟨rfl, hb3⟩))
        go_ret2
        exact ⟨r_pl (by rw [HR.out, hd]; rfl), bl_t (bl_a (bl_a (Below.refl _ _) _) _) hb3⟩
      | ok k =>
        rw [hd] at h3
        simp only [plV] at h3
        have hB1 : Byt (w.alloc (.cells #[.int .u8 45] 5)) v l := Row.alloc hB _
        have hB2 : Byt ((w.alloc (.cells #[.int .u8 45] 5)).alloc (.cells #[.int .u8 48] 5)) v l := Row.alloc hB1 _
        go_enter Tryz.func68, Tryz.ntmps68
        go_wp2_with (first | (go_at_call 69; with_reducible refine (s1 _ _ rfl hB).mono ?_; rintro r w2 ⟨rfl, rfl⟩) | (go_at_call 69; with_reducible refine (s2 _ _ (by simp) hB1).mono ?_; rintro r w2 ⟨rfl, rfl⟩) | (go_at_call 70; refine (h3 _ hB2).mono ?_; rintro r w3 ⟨rfl, hb3⟩))
        go_ret2
        exact ⟨r_pl (by rw [HR.out, hd]; rfl), bl_t (bl_a (bl_a (Below.refl _ _) _) _) hb3⟩
    · have s2 := fun (w' : World) (b' : Nat) (hk : w'.heap.size = b') (hb : Byt w' v l) => (show Calls Tryz.prog 69 #[v, .int .i64 (i : Int), .slice (some ⟨b', 0, none⟩) 1 1] (w'.alloc (.cells #[.int .u8 48] 5)) fun r w2 => r = .returned (.bool true) ∧ w2 = w'.alloc (.cells #[.int .u8 48] 5) from by have := stands_ws l i v [48] #[.int .u8 48] 1 (· == 48) true w' rfl rfl (by decide) b' hk hb (by omega) hm (fun c => by simp) (by assumption); simpa using this)
      have HR : Hid (wholeL l i = .ok (i + 1)) := by show _ = _; simp [wholeL, ea, h2]
      have hl2 := hasAt_lt h2
      have hB1 : Byt (w.alloc (.cells #[.int .u8 45] 5)) v l := Row.alloc hB _
      clear h h2 ea
      go_enter Tryz.func68, Tryz.ntmps68
      go_wp2_with (first | (go_at_call 69; with_reducible refine (s1 _ _ rfl hB).mono ?_; rintro r w2 ⟨rfl, rfl⟩) | (go_at_call 69; with_reducible refine (s2 _ _ (by simp) hB1).mono ?_; rintro r w2 ⟨rfl, rfl⟩))
      go_ret2
      exact ⟨r_pl (by rw [HR.out]; simp [plV]), bl_a (bl_a (Below.refl _ _) _) _⟩
  · have ea : aft l i (· == 45) = (i + 1) := by simp [aft, h]
    have hl := hasAt_lt h
    have s1 := fun (w' : World) (b' : Nat) (hk : w'.heap.size = b') (hb : Byt w' v l) => (show Calls Tryz.prog 69 #[v, .int .i64 (i : Int), .slice (some ⟨b', 0, none⟩) 1 1] (w'.alloc (.cells #[.int .u8 45] 5)) fun r w2 => r = .returned (.bool true) ∧ w2 = w'.alloc (.cells #[.int .u8 45] 5) from by have := stands_ws l i v [45] #[.int .u8 45] 1 (· == 45) true w' rfl rfl (by decide) b' hk hb (by omega) hm (fun c => by simp) (by assumption); simpa using this)
    cases h2 : hasAt l (i + 1) (· == 48)
    · have s2 := fun (w' : World) (b' : Nat) (hk : w'.heap.size = b') (hb : Byt w' v l) => (show Calls Tryz.prog 69 #[v, .int .i64 ((i : Int) + 1), .slice (some ⟨b', 0, none⟩) 1 1] (w'.alloc (.cells #[.int .u8 48] 5)) fun r w2 => r = .returned (.bool false) ∧ w2 = w'.alloc (.cells #[.int .u8 48] 5) from by have := stands_ws l (i + 1) v [48] #[.int .u8 48] 1 (· == 48) false w' rfl rfl (by decide) b' hk hb (by omega) hm (fun c => by simp) (by assumption); simpa using this)
      have HR : Hid (wholeL l i = digitsL l (i + 1)) := by show _ = _; simp [wholeL, ea, h2]
      have h3 := fun w' (hb : Byt w' v l) => (show Calls Tryz.prog 70 #[v, .int .i64 ((i : Int) + 1)] w' fun r w2 => r = .returned (plV (digitsL l (i + 1))) ∧ Below w'.heap.size w' w2 from by have := digits_any l (i + 1) v w' hb (by omega) hm; simpa using this)
      clear h h2 ea
      cases hd : digitsL l (i + 1) with
      | error n =>
        rw [hd] at h3
        simp only [plV, errV] at h3
        have hB1 : Byt (w.alloc (.cells #[.int .u8 45] 5)) v l := Row.alloc hB _
        have hB2 : Byt ((w.alloc (.cells #[.int .u8 45] 5)).alloc (.cells #[.int .u8 48] 5)) v l := Row.alloc hB1 _
        go_enter Tryz.func68, Tryz.ntmps68
        go_wp2_with (first | (go_at_call 69; with_reducible refine (s1 _ _ rfl hB).mono ?_; rintro r w2 ⟨rfl, rfl⟩) | (go_at_call 69; with_reducible refine (s2 _ _ (by simp) hB1).mono ?_; rintro r w2 ⟨rfl, rfl⟩) | (go_at_call 70; refine (h3 _ hB2).mono ?_; rintro r w3 ⟨rfl, hb3⟩))
        go_ret2
        exact ⟨r_pl (by rw [HR.out, hd]; rfl), bl_t (bl_a (bl_a (Below.refl _ _) _) _) hb3⟩
      | ok k =>
        rw [hd] at h3
        simp only [plV] at h3
        have hB1 : Byt (w.alloc (.cells #[.int .u8 45] 5)) v l := Row.alloc hB _
        have hB2 : Byt ((w.alloc (.cells #[.int .u8 45] 5)).alloc (.cells #[.int .u8 48] 5)) v l := Row.alloc hB1 _
        go_enter Tryz.func68, Tryz.ntmps68
        go_wp2_with (first | (go_at_call 69; with_reducible refine (s1 _ _ rfl hB).mono ?_; rintro r w2 ⟨rfl, rfl⟩) | (go_at_call 69; with_reducible refine (s2 _ _ (by simp) hB1).mono ?_; rintro r w2 ⟨rfl, rfl⟩) | (go_at_call 70; refine (h3 _ hB2).mono ?_; rintro r w3 ⟨rfl, hb3⟩))
        go_ret2
        exact ⟨r_pl (by rw [HR.out, hd]; rfl), bl_t (bl_a (bl_a (Below.refl _ _) _) _) hb3⟩
    · have s2 := fun (w' : World) (b' : Nat) (hk : w'.heap.size = b') (hb : Byt w' v l) => (show Calls Tryz.prog 69 #[v, .int .i64 ((i : Int) + 1), .slice (some ⟨b', 0, none⟩) 1 1] (w'.alloc (.cells #[.int .u8 48] 5)) fun r w2 => r = .returned (.bool true) ∧ w2 = w'.alloc (.cells #[.int .u8 48] 5) from by have := stands_ws l (i + 1) v [48] #[.int .u8 48] 1 (· == 48) true w' rfl rfl (by decide) b' hk hb (by omega) hm (fun c => by simp) (by assumption); simpa using this)
      have HR : Hid (wholeL l i = .ok ((i + 1) + 1)) := by show _ = _; simp [wholeL, ea, h2]
      have hl2 := hasAt_lt h2
      have hB1 : Byt (w.alloc (.cells #[.int .u8 45] 5)) v l := Row.alloc hB _
      clear h h2 ea
      go_enter Tryz.func68, Tryz.ntmps68
      go_wp2_with (first | (go_at_call 69; with_reducible refine (s1 _ _ rfl hB).mono ?_; rintro r w2 ⟨rfl, rfl⟩) | (go_at_call 69; with_reducible refine (s2 _ _ (by simp) hB1).mono ?_; rintro r w2 ⟨rfl, rfl⟩))
      go_ret2
      exact ⟨r_pl (by rw [HR.out]; simp [plV]), bl_a (bl_a (Below.refl _ _) _) _⟩

set_option maxHeartbeats 800000 in
theorem exponent_any (l : List UInt8) (i : Nat) (v : Value) (w : World) (hB : Byt w v l) (hi : i ≤ l.length) (hm : l.length ≤ 281474976710656) :
    Calls Tryz.prog 71 #[v, .int .i64 i] w fun r w' => r = .returned (plV (exponentL l i)) ∧ Below w.heap.size w w' := by
  have hiI : (i : Int) ≤ 281474976710656 := by omega
  have hB1 : Byt (w.alloc (.cells #[.int .u8 43, .int .u8 45] 5)) v l := Row.alloc hB _
  cases h : hasAt l i (fun c => c == 43 || c == 45)
  · have ea : aft l i (fun c => c == 43 || c == 45) = i := by simp [aft, h]
    have s1 := fun (w' : World) (b' : Nat) (hk : w'.heap.size = b') (hb : Byt w' v l) => (show Calls Tryz.prog 69 #[v, .int .i64 (i : Int), .slice (some ⟨b', 0, none⟩) 2 2] (w'.alloc (.cells #[.int .u8 43, .int .u8 45] 5)) fun r w2 => r = .returned (.bool false) ∧ w2 = w'.alloc (.cells #[.int .u8 43, .int .u8 45] 5) from by have := stands_ws l i v [43, 45] #[.int .u8 43, .int .u8 45] 2 (fun c => c == 43 || c == 45) false w' rfl rfl (by decide) b' hk hb (by omega) hm (fun c => by simp) (by assumption); simpa using this)
    have HR : Hid (exponentL l i = digitsL l i) := by show _ = _; simp [exponentL, ea]
    have h3 := fun w' (hb : Byt w' v l) => (show Calls Tryz.prog 70 #[v, .int .i64 (i : Int)] w' fun r w2 => r = .returned (plV (digitsL l i)) ∧ Below w'.heap.size w' w2 from by have := digits_any l i v w' hb (by omega) hm; simpa using this)
    clear h ea
    cases hd : digitsL l i with
    | error n =>
      rw [hd] at h3
      simp only [plV, errV] at h3
      go_enter Tryz.func71, Tryz.ntmps71
      go_wp2_with (first | (go_at_call 69; with_reducible refine (s1 _ _ rfl hB).mono ?_; rintro r w2 ⟨rfl, rfl⟩) | (go_at_call 70; refine (h3 _ hB1).mono ?_; rintro r w3 ⟨rfl, hb3⟩))
      go_ret2
      exact ⟨r_pl (by rw [HR.out, hd]; rfl), bl_t (bl_a (Below.refl _ _) _) hb3⟩
    | ok k =>
      rw [hd] at h3
      simp only [plV] at h3
      go_enter Tryz.func71, Tryz.ntmps71
      go_wp2_with (first | (go_at_call 69; with_reducible refine (s1 _ _ rfl hB).mono ?_; rintro r w2 ⟨rfl, rfl⟩) | (go_at_call 70; refine (h3 _ hB1).mono ?_; rintro r w3 ⟨rfl, hb3⟩))
      go_ret2
      exact ⟨r_pl (by rw [HR.out, hd]; rfl), bl_t (bl_a (Below.refl _ _) _) hb3⟩
  · have ea : aft l i (fun c => c == 43 || c == 45) = (i + 1) := by simp [aft, h]
    have hl := hasAt_lt h
    have s1 := fun (w' : World) (b' : Nat) (hk : w'.heap.size = b') (hb : Byt w' v l) => (show Calls Tryz.prog 69 #[v, .int .i64 (i : Int), .slice (some ⟨b', 0, none⟩) 2 2] (w'.alloc (.cells #[.int .u8 43, .int .u8 45] 5)) fun r w2 => r = .returned (.bool true) ∧ w2 = w'.alloc (.cells #[.int .u8 43, .int .u8 45] 5) from by have := stands_ws l i v [43, 45] #[.int .u8 43, .int .u8 45] 2 (fun c => c == 43 || c == 45) true w' rfl rfl (by decide) b' hk hb (by omega) hm (fun c => by simp) (by assumption); simpa using this)
    have HR : Hid (exponentL l i = digitsL l (i + 1)) := by show _ = _; simp [exponentL, ea]
    have h3 := fun w' (hb : Byt w' v l) => (show Calls Tryz.prog 70 #[v, .int .i64 ((i : Int) + 1)] w' fun r w2 => r = .returned (plV (digitsL l (i + 1))) ∧ Below w'.heap.size w' w2 from by have := digits_any l (i + 1) v w' hb (by omega) hm; simpa using this)
    clear h ea
    cases hd : digitsL l (i + 1) with
    | error n =>
      rw [hd] at h3
      simp only [plV, errV] at h3
      go_enter Tryz.func71, Tryz.ntmps71
      go_wp2_with (first | (go_at_call 69; with_reducible refine (s1 _ _ rfl hB).mono ?_; rintro r w2 ⟨rfl, rfl⟩) | (go_at_call 70; refine (h3 _ hB1).mono ?_; rintro r w3 ⟨rfl, hb3⟩))
      go_ret2
      exact ⟨r_pl (by rw [HR.out, hd]; rfl), bl_t (bl_a (Below.refl _ _) _) hb3⟩
    | ok k =>
      rw [hd] at h3
      simp only [plV] at h3
      go_enter Tryz.func71, Tryz.ntmps71
      go_wp2_with (first | (go_at_call 69; with_reducible refine (s1 _ _ rfl hB).mono ?_; rintro r w2 ⟨rfl, rfl⟩) | (go_at_call 70; refine (h3 _ hB1).mono ?_; rintro r w3 ⟨rfl, hb3⟩))
      go_ret2
      exact ⟨r_pl (by rw [HR.out, hd]; rfl), bl_t (bl_a (Below.refl _ _) _) hb3⟩

/-- The byte at a place of a text. -/
def cx (s : ByteArray) (i : Nat) : Int := if h : i < s.size then ((s[i]'h).toNat : Int) else 0
theorem cx_at (s : ByteArray) (i : Nat) (h : i < s.size) : ((s[i]'h).toNat : Int) = cx s i := by simp [cx, h]

set_option maxHeartbeats 400000 in
theorem letter_any (c : Int) (a b : Nat) (s : ByteArray) (k : Nat) (w : World) (ha : w.cell? ⟨a, 0, none⟩ = some (.string s)) (hb : w.cell? ⟨b, 0, none⟩ = some (.int .i64 k)) (hk : k < s.size) :
    Calls Tryz.prog 94 #[.int .u8 c, .pointer (some ⟨a, 0, none⟩), .pointer (some ⟨b, 0, none⟩)] w fun r w' => r = .returned (.bool (c == cx s k)) ∧ Below w.heap.size w w' := by
  have hx := cx_at s k hk
  have hkI : (k : Int) < (s.size : Int) := by omega
  generalize cx s k = x at *
  go_enter Tryz.func94, Tryz.ntmps94
  go_wp2
  go_ret
  exact ⟨rfl, Below.refl _ _⟩

set_option maxHeartbeats 400000 in
theorem taken_letter (a b : Nat) (l : List UInt8) (i : Nat) (v : Value) (p : Int → Bool) (w : World) (hB : Byt w v l) (hi : i ≤ l.length) (hm : l.length ≤ 281474976710656)
    (hf : ∀ c, Calls Tryz.prog 94 #[.int .u8 c, .pointer (some ⟨a, 0, none⟩), .pointer (some ⟨b, 0, none⟩)] w fun r w' => r = .returned (.bool (p c)) ∧ Below w.heap.size w w') :
    Calls Tryz.prog 93 #[v, .int .i64 i, .func (.func 94) #[] #[.pointer (some ⟨a, 0, none⟩), .pointer (some ⟨b, 0, none⟩)]] w fun r w' => r = .returned (plV (takenL l i p)) ∧ Below w.heap.size w w' := by
  have hmI : (l.length : Int) ≤ 281474976710656 := by omega
  have g1 := fun w => badAt_any i w (by omega)
  by_cases hlt : i < l.length
  · rcases hB with ⟨h0, _⟩ | ⟨bb, off, cap, rfl, hc, hm', hL⟩
    · omega
    · have hcell := hL.cell i hlt
      have hI : (i : Int) < (l.length : Int) := by omega
      have h1 := hf (bx l i)
      cases hp : p (bx l i)
      · rw [hp] at h1
        have HR : Hid (takenL l i p = .error (i + 1)) := by show _ = _; simp [takenL, hasAt_in p hlt, hp]
        clear hp hL hf hc hm'
        generalize bx l i = c at *
        go_enter Tryz.func93, Tryz.ntmps93
        go_wp2_with (first | (go_at_call 94; refine h1.mono ?_; rintro r w2 ⟨rfl, hb2⟩) | (go_at_call 48; refine (g1 _).mono ?_; rintro r w3 ⟨rfl, rfl⟩))
        go_ret2
        exact ⟨r_pl (by rw [HR.out]; rfl), hb2⟩
      · rw [hp] at h1
        have HR : Hid (takenL l i p = .ok (i + 1)) := by show _ = _; simp [takenL, hasAt_in p hlt, hp]
        clear hp hL hf hc hm' g1
        generalize bx l i = c at *
        go_enter Tryz.func93, Tryz.ntmps93
        go_wp2_with (go_at_call 94; refine h1.mono ?_; rintro r w2 ⟨rfl, hb2⟩)
        go_ret2
        exact ⟨r_pl (by rw [HR.out]; simp [plV]), hb2⟩
  · have hI : ¬ (i : Int) < (l.length : Int) := by omega
    have HR : Hid (takenL l i p = .error (i + 1)) := by show _ = _; simp [takenL, hasAt_out p hlt]
    obtain ⟨a, cap, rfl, _⟩ := hB.shape
    clear hB hf
    go_enter Tryz.func93, Tryz.ntmps93
    go_wp2_with (go_at_call 48; refine (g1 _).mono ?_; rintro r w3 ⟨rfl, rfl⟩)
    go_ret2
    exact ⟨r_pl (by rw [HR.out]; rfl), Below.refl _ _⟩
end Go.Proofs.YtlahlnocjfphjaaGreatDoor.Lx
