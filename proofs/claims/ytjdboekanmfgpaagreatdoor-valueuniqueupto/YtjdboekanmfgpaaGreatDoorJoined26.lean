/-
  What lex.number answers. Conditions: the bytes lie in memory, at most 2^48 of them.
-/
import Derived.Test.YtjdboekanmfgpaaGreatDoorJoined9
namespace Go.Proofs.YtjdboekanmfgpaaGreatDoor.Lx
open Go.RowKit
attribute [local go_sem] setCell_drewN alloc_drewN

set_option maxRecDepth 100000 in
set_option maxHeartbeats 1600000 in
theorem number_w (l : List UInt8) (i n : Nat) (v : Value) (w : World) (hB : Byt w v l) (hi : i < l.length) (hm : l.length ≤ 281474976710656) (hw : wholeL l i = .error n) :
  Calls Tryz.prog 178 #[v, .int .i64 i] w fun r w' => r = .returned (tkV (.error n)) ∧ Below w.heap.size w w' := by
 have hB0 : Byt (w.alloc (.cells #[.int .i64 0, .string ⟨#[]⟩, .int .i64 0, .int .i64 0] 120)) v l := Row.alloc hB _
 have h1 := whole_any l i v _ hB0 (by omega) hm
 rw [hw] at h1
 simp only [plV, errV] at h1
 clear hw
 go_enter Tryz.func178, Tryz.ntmps178
 go_wp2_with (go_at_call 193; refine h1.mono ?_; rintro r w2 ⟨rfl, hb2⟩; obtain ⟨kc, kf, kz⟩ := keepT hb2)
 refine bodyPost_ret (v := .tuple #[tokV ⟨0, [], 0, 0⟩, errV n]) ?_ rfl ?_
 all_goals first | (exact ⟨rfl, (by with_reducible repeat (first | exact Below.refl _ _ | refine bl_t ?_ hb2 | refine bl_a ?_ _ | refine bl_s ?_ (by omega) _))⟩) | (simp [results, Tryz.results178, go_sem, tokV, errV, kc])

set_option maxRecDepth 100000 in
set_option maxHeartbeats 1600000 in
theorem number_f (l : List UInt8) (i k n : Nat) (v : Value) (w : World) (hB : Byt w v l) (hi : i < l.length) (hm : l.length ≤ 281474976710656) (hw : wholeL l i = .ok k) (hd : hasAt l k (· == 46) = true) (hf : digitsL l (k + 1) = .error n) :
  Calls Tryz.prog 178 #[v, .int .i64 i] w fun r w' => r = .returned (tkV (.error n)) ∧ Below w.heap.size w w' := by
 have hB0 : Byt (w.alloc (.cells #[.int .i64 0, .string ⟨#[]⟩, .int .i64 0, .int .i64 0] 120)) v l := Row.alloc hB _
 have h1 := whole_any l i v _ hB0 (by omega) hm
 have hkl := (wholeL_le hw).2
 have hk1 := hasAt_lt hd
 have s1 := fun (w' : World) (b' : Nat) (hk : w'.heap.size = b') (hb : Byt w' v l) => (show Calls Tryz.prog 194 #[v, .int .i64 (k : Int), .slice (some ⟨b', 0, none⟩) 1 1] (w'.alloc (.cells #[.int .u8 46] 5)) fun r w2 => r = .returned (.bool true) ∧ w2 = w'.alloc (.cells #[.int .u8 46] 5) from stands_ws l k v [46] #[.int .u8 46] 1 (· == 46) true w' rfl rfl (by decide) b' hk hb (by omega) hm (fun c => by simp) (by assumption))
 have h2 := fun w' (hb : Byt w' v l) => (show Calls Tryz.prog 195 #[v, .int .i64 ((k : Int) + 1)] w' fun r w2 => r = .returned (plV (digitsL l (k + 1))) ∧ Below w'.heap.size w' w2 from by have := digits_any l (k + 1) v w' hb (by omega) hm; simpa using this)
 rw [hw] at h1
 rw [hf] at h2
 simp only [plV, errV] at h1 h2
 clear hw hd hf
 go_enter Tryz.func178, Tryz.ntmps178
 go_wp2_with (first | (go_at_call 193; refine h1.mono ?_; rintro r w2 ⟨rfl, hb2⟩) | (go_at_call 194; with_reducible refine (s1 _ _ rfl (hB0.below hb2)).mono ?_; rintro r w3 ⟨rfl, rfl⟩) | (go_at_call 195; refine (h2 _ (hB0.below (bl_a hb2 _))).mono ?_; rintro r w4 ⟨rfl, hb4⟩; obtain ⟨kc, kf, kz⟩ := keepT (bl_t (bl_a hb2 _) hb4)))
 refine bodyPost_ret (v := .tuple #[tokV ⟨0, [], 0, 0⟩, errV n]) ?_ rfl ?_
 all_goals first | (exact ⟨rfl, (by with_reducible repeat (first | exact Below.refl _ _ | refine bl_t ?_ hb4 | refine bl_t ?_ hb2 | refine bl_a ?_ _ | refine bl_s ?_ (by omega) _))⟩) | (simp [results, Tryz.results178, go_sem, tokV, errV, kc])

set_option maxRecDepth 100000 in
set_option maxHeartbeats 1600000 in
theorem number_n_no (l : List UInt8) (i k : Nat) (v : Value) (w : World) (hB : Byt w v l) (hi : i < l.length) (hm : l.length ≤ 281474976710656) (hw : wholeL l i = .ok k) (hd : hasAt l k (· == 46) = false) (he : hasAt l k (fun c => c == 101 || c == 69) = false) :
  Calls Tryz.prog 178 #[v, .int .i64 i] w fun r w' => r = .returned (tkV (stands 2 l i (.ok k))) ∧ Below w.heap.size w w' := by
 have hB0 : Byt (w.alloc (.cells #[.int .i64 0, .string ⟨#[]⟩, .int .i64 0, .int .i64 0] 120)) v l := Row.alloc hB _
 have h1 := whole_any l i v _ hB0 (by omega) hm
 have hik := (wholeL_le hw).1
 have hkl := (wholeL_le hw).2
 have s1 := fun (w' : World) (b' : Nat) (hk : w'.heap.size = b') (hb : Byt w' v l) => (show Calls Tryz.prog 194 #[v, .int .i64 (k : Int), .slice (some ⟨b', 0, none⟩) 1 1] (w'.alloc (.cells #[.int .u8 46] 5)) fun r w2 => r = .returned (.bool false) ∧ w2 = w'.alloc (.cells #[.int .u8 46] 5) from stands_ws l k v [46] #[.int .u8 46] 1 (· == 46) false w' rfl rfl (by decide) b' hk hb (by omega) hm (fun c => by simp) (by assumption))
 have s2 := fun (w' : World) (b' : Nat) (hk : w'.heap.size = b') (hb : Byt w' v l) => (show Calls Tryz.prog 194 #[v, .int .i64 (k : Int), .slice (some ⟨b', 0, none⟩) 2 2] (w'.alloc (.cells #[.int .u8 101, .int .u8 69] 5)) fun r w2 => r = .returned (.bool false) ∧ w2 = w'.alloc (.cells #[.int .u8 101, .int .u8 69] 5) from stands_ws l k v [101, 69] #[.int .u8 101, .int .u8 69] 2 (fun c => c == 101 || c == 69) false w' rfl rfl (by decide) b' hk hb (by omega) hm (fun c => by simp) (by assumption))
 rw [hw] at h1
 simp only [plV] at h1
 have h9 := fun w' (hb : Byt w' v l) => asItStands_any 2 l i k v w' hb hi (by omega) (by omega)
 simp only [tokV] at h9
 clear hw hd he
 obtain ⟨t, ht⟩ : ∃ t, sub l i k = t := ⟨_, rfl⟩
 have HT : Hid (sub l i k = t) := ht
 rw [ht] at h9
 clear ht
 go_enter Tryz.func178, Tryz.ntmps178
 go_wp2_with (first | (go_at_call 193; refine h1.mono ?_; rintro r w2 ⟨rfl, hb2⟩) | (go_at_call 194; with_reducible refine (s1 _ _ rfl (hB0.below hb2)).mono ?_; rintro r w3 ⟨rfl, rfl⟩) | (go_at_call 194; with_reducible refine (s2 _ _ (by simp) (hB0.below (bl_a hb2 _))).mono ?_; rintro r w5 ⟨rfl, rfl⟩) | (go_at_call 175; refine (h9 _ (hB0.below (bl_a (bl_a hb2 _) _))).mono ?_; rintro r w9 ⟨rfl, hb9⟩; obtain ⟨kc, kf, kz⟩ := keepT (bl_t (bl_a (bl_a hb2 _) _) hb9)))
 refine bodyPost_ret (v := .tuple #[tokV ⟨2, t, i, k⟩, .nilIface]) ?_ rfl ?_
 all_goals first | (exact ⟨by rw [← HT.out]; rfl, (by with_reducible repeat (first | exact Below.refl _ _ | refine bl_t ?_ hb9 | refine bl_t ?_ hb2 | refine bl_a ?_ _ | refine bl_s ?_ (by omega) _))⟩) | (simp [results, Tryz.results178, go_sem, tokV, kc])

set_option maxRecDepth 100000 in
set_option maxHeartbeats 1600000 in
theorem number_n_err (l : List UInt8) (i k n : Nat) (v : Value) (w : World) (hB : Byt w v l) (hi : i < l.length) (hm : l.length ≤ 281474976710656) (hw : wholeL l i = .ok k) (hd : hasAt l k (· == 46) = false) (he : hasAt l k (fun c => c == 101 || c == 69) = true) (hx : exponentL l (k + 1) = .error n) :
  Calls Tryz.prog 178 #[v, .int .i64 i] w fun r w' => r = .returned (tkV (.error n)) ∧ Below w.heap.size w w' := by
 have hB0 : Byt (w.alloc (.cells #[.int .i64 0, .string ⟨#[]⟩, .int .i64 0, .int .i64 0] 120)) v l := Row.alloc hB _
 have h1 := whole_any l i v _ hB0 (by omega) hm
 have hkl := (wholeL_le hw).2
 have s1 := fun (w' : World) (b' : Nat) (hk : w'.heap.size = b') (hb : Byt w' v l) => (show Calls Tryz.prog 194 #[v, .int .i64 (k : Int), .slice (some ⟨b', 0, none⟩) 1 1] (w'.alloc (.cells #[.int .u8 46] 5)) fun r w2 => r = .returned (.bool false) ∧ w2 = w'.alloc (.cells #[.int .u8 46] 5) from stands_ws l k v [46] #[.int .u8 46] 1 (· == 46) false w' rfl rfl (by decide) b' hk hb (by omega) hm (fun c => by simp) (by assumption))
 have s2 := fun (w' : World) (b' : Nat) (hk : w'.heap.size = b') (hb : Byt w' v l) => (show Calls Tryz.prog 194 #[v, .int .i64 (k : Int), .slice (some ⟨b', 0, none⟩) 2 2] (w'.alloc (.cells #[.int .u8 101, .int .u8 69] 5)) fun r w2 => r = .returned (.bool true) ∧ w2 = w'.alloc (.cells #[.int .u8 101, .int .u8 69] 5) from stands_ws l k v [101, 69] #[.int .u8 101, .int .u8 69] 2 (fun c => c == 101 || c == 69) true w' rfl rfl (by decide) b' hk hb (by omega) hm (fun c => by simp) (by assumption))
 have he1 := hasAt_lt he
 have h3 := fun w' (hb : Byt w' v l) => (show Calls Tryz.prog 196 #[v, .int .i64 ((k : Int) + 1)] w' fun r w2 => r = .returned (plV (exponentL l (k + 1))) ∧ Below w'.heap.size w' w2 from by have := exponent_any l (k + 1) v w' hb (by omega) hm; simpa using this)
 rw [hw] at h1
 rw [hx] at h3
 simp only [plV, errV] at h1 h3
 clear hw hd he hx
 go_enter Tryz.func178, Tryz.ntmps178
 go_wp2_with (first | (go_at_call 193; refine h1.mono ?_; rintro r w2 ⟨rfl, hb2⟩) | (go_at_call 194; with_reducible refine (s1 _ _ rfl (hB0.below hb2)).mono ?_; rintro r w3 ⟨rfl, rfl⟩) | (go_at_call 194; with_reducible refine (s2 _ _ (by simp) (hB0.below (bl_a hb2 _))).mono ?_; rintro r w5 ⟨rfl, rfl⟩) | (go_at_call 196; refine (h3 _ (hB0.below (bl_a (bl_a hb2 _) _))).mono ?_; rintro r w6 ⟨rfl, hb6⟩; obtain ⟨kc, kf, kz⟩ := keepT (bl_t (bl_a (bl_a hb2 _) _) hb6)))
 refine bodyPost_ret (v := .tuple #[tokV ⟨0, [], 0, 0⟩, errV n]) ?_ rfl ?_
 all_goals first | (exact ⟨rfl, (by with_reducible repeat (first | exact Below.refl _ _ | refine bl_t ?_ hb6 | refine bl_t ?_ hb2 | refine bl_a ?_ _ | refine bl_s ?_ (by omega) _))⟩) | (simp [results, Tryz.results178, go_sem, tokV, errV, kc])

set_option maxRecDepth 100000 in
set_option maxHeartbeats 1600000 in
theorem number_n_ok (l : List UInt8) (i k q : Nat) (v : Value) (w : World) (hB : Byt w v l) (hi : i < l.length) (hm : l.length ≤ 281474976710656) (hw : wholeL l i = .ok k) (hd : hasAt l k (· == 46) = false) (he : hasAt l k (fun c => c == 101 || c == 69) = true) (hx : exponentL l (k + 1) = .ok q) :
  Calls Tryz.prog 178 #[v, .int .i64 i] w fun r w' => r = .returned (tkV (stands 2 l i (.ok q))) ∧ Below w.heap.size w w' := by
 have hB0 : Byt (w.alloc (.cells #[.int .i64 0, .string ⟨#[]⟩, .int .i64 0, .int .i64 0] 120)) v l := Row.alloc hB _
 have h1 := whole_any l i v _ hB0 (by omega) hm
 have hik := (wholeL_le hw).1
 have hkl := (wholeL_le hw).2
 have s1 := fun (w' : World) (b' : Nat) (hk : w'.heap.size = b') (hb : Byt w' v l) => (show Calls Tryz.prog 194 #[v, .int .i64 (k : Int), .slice (some ⟨b', 0, none⟩) 1 1] (w'.alloc (.cells #[.int .u8 46] 5)) fun r w2 => r = .returned (.bool false) ∧ w2 = w'.alloc (.cells #[.int .u8 46] 5) from stands_ws l k v [46] #[.int .u8 46] 1 (· == 46) false w' rfl rfl (by decide) b' hk hb (by omega) hm (fun c => by simp) (by assumption))
 have s2 := fun (w' : World) (b' : Nat) (hk : w'.heap.size = b') (hb : Byt w' v l) => (show Calls Tryz.prog 194 #[v, .int .i64 (k : Int), .slice (some ⟨b', 0, none⟩) 2 2] (w'.alloc (.cells #[.int .u8 101, .int .u8 69] 5)) fun r w2 => r = .returned (.bool true) ∧ w2 = w'.alloc (.cells #[.int .u8 101, .int .u8 69] 5) from stands_ws l k v [101, 69] #[.int .u8 101, .int .u8 69] 2 (fun c => c == 101 || c == 69) true w' rfl rfl (by decide) b' hk hb (by omega) hm (fun c => by simp) (by assumption))
 have he1 := hasAt_lt he
 have h3 := fun w' (hb : Byt w' v l) => (show Calls Tryz.prog 196 #[v, .int .i64 ((k : Int) + 1)] w' fun r w2 => r = .returned (plV (exponentL l (k + 1))) ∧ Below w'.heap.size w' w2 from by have := exponent_any l (k + 1) v w' hb (by omega) hm; simpa using this)
 have hql := exponentL_le hx
 rw [hw] at h1
 rw [hx] at h3
 simp only [plV] at h1 h3
 have h9 := fun w' (hb : Byt w' v l) => asItStands_any 2 l i q v w' hb hi (by omega) (by omega)
 simp only [tokV] at h9
 clear hw hd he hx
 obtain ⟨t, ht⟩ : ∃ t, sub l i q = t := ⟨_, rfl⟩
 have HT : Hid (sub l i q = t) := ht
 rw [ht] at h9
 clear ht
 go_enter Tryz.func178, Tryz.ntmps178
 go_wp2_with (first | (go_at_call 193; refine h1.mono ?_; rintro r w2 ⟨rfl, hb2⟩) | (go_at_call 194; with_reducible refine (s1 _ _ rfl (hB0.below hb2)).mono ?_; rintro r w3 ⟨rfl, rfl⟩) | (go_at_call 194; with_reducible refine (s2 _ _ (by simp) (hB0.below (bl_a hb2 _))).mono ?_; rintro r w5 ⟨rfl, rfl⟩) | (go_at_call 196; refine (h3 _ (hB0.below (bl_a (bl_a hb2 _) _))).mono ?_; rintro r w6 ⟨rfl, hb6⟩) | (go_at_call 175; refine (h9 _ (hB0.below (bl_t (bl_a (bl_a hb2 _) _) hb6))).mono ?_; rintro r w9 ⟨rfl, hb9⟩; obtain ⟨kc, kf, kz⟩ := keepT (bl_t (bl_t (bl_a (bl_a hb2 _) _) hb6) hb9)))
 refine bodyPost_ret (v := .tuple #[tokV ⟨2, t, i, q⟩, .nilIface]) ?_ rfl ?_
 all_goals first | (exact ⟨by rw [← HT.out]; rfl, (by with_reducible repeat (first | exact Below.refl _ _ | refine bl_t ?_ hb9 | refine bl_t ?_ hb6 | refine bl_t ?_ hb2 | refine bl_a ?_ _ | refine bl_s ?_ (by omega) _))⟩) | (simp [results, Tryz.results178, go_sem, tokV, kc])

set_option maxRecDepth 100000 in
set_option maxHeartbeats 1600000 in
theorem number_d_no (l : List UInt8) (i k m : Nat) (v : Value) (w : World) (hB : Byt w v l) (hi : i < l.length) (hm : l.length ≤ 281474976710656) (hw : wholeL l i = .ok k) (hd : hasAt l k (· == 46) = true) (hf : digitsL l (k + 1) = .ok m) (he : hasAt l m (fun c => c == 101 || c == 69) = false) :
  Calls Tryz.prog 178 #[v, .int .i64 i] w fun r w' => r = .returned (tkV (stands 2 l i (.ok m))) ∧ Below w.heap.size w w' := by
 have hB0 : Byt (w.alloc (.cells #[.int .i64 0, .string ⟨#[]⟩, .int .i64 0, .int .i64 0] 120)) v l := Row.alloc hB _
 have h1 := whole_any l i v _ hB0 (by omega) hm
 have hik := (wholeL_le hw).1
 have hkm := (digitsL_le hf).1
 have hkl := (wholeL_le hw).2
 have s1 := fun (w' : World) (b' : Nat) (hk : w'.heap.size = b') (hb : Byt w' v l) => (show Calls Tryz.prog 194 #[v, .int .i64 (k : Int), .slice (some ⟨b', 0, none⟩) 1 1] (w'.alloc (.cells #[.int .u8 46] 5)) fun r w2 => r = .returned (.bool true) ∧ w2 = w'.alloc (.cells #[.int .u8 46] 5) from stands_ws l k v [46] #[.int .u8 46] 1 (· == 46) true w' rfl rfl (by decide) b' hk hb (by omega) hm (fun c => by simp) (by assumption))
 have hk1 := hasAt_lt hd
 have hml := (digitsL_le hf).2
 have h2 := fun w' (hb : Byt w' v l) => (show Calls Tryz.prog 195 #[v, .int .i64 ((k : Int) + 1)] w' fun r w2 => r = .returned (plV (digitsL l (k + 1))) ∧ Below w'.heap.size w' w2 from by have := digits_any l (k + 1) v w' hb (by omega) hm; simpa using this)
 have s2 := fun (w' : World) (b' : Nat) (hk : w'.heap.size = b') (hb : Byt w' v l) => (show Calls Tryz.prog 194 #[v, .int .i64 (m : Int), .slice (some ⟨b', 0, none⟩) 2 2] (w'.alloc (.cells #[.int .u8 101, .int .u8 69] 5)) fun r w2 => r = .returned (.bool false) ∧ w2 = w'.alloc (.cells #[.int .u8 101, .int .u8 69] 5) from stands_ws l m v [101, 69] #[.int .u8 101, .int .u8 69] 2 (fun c => c == 101 || c == 69) false w' rfl rfl (by decide) b' hk hb (by omega) hm (fun c => by simp) (by assumption))
 rw [hw] at h1
 rw [hf] at h2
 simp only [plV] at h1 h2
 have h9 := fun w' (hb : Byt w' v l) => asItStands_any 2 l i m v w' hb hi (by omega) (by omega)
 simp only [tokV] at h9
 clear hw hd hf he
 obtain ⟨t, ht⟩ : ∃ t, sub l i m = t := ⟨_, rfl⟩
 have HT : Hid (sub l i m = t) := ht
 rw [ht] at h9
 clear ht
 go_enter Tryz.func178, Tryz.ntmps178
 go_wp2_with (first | (go_at_call 193; refine h1.mono ?_; rintro r w2 ⟨rfl, hb2⟩) | (go_at_call 194; with_reducible refine (s1 _ _ rfl (hB0.below hb2)).mono ?_; rintro r w3 ⟨rfl, rfl⟩) | (go_at_call 195; refine (h2 _ (hB0.below (bl_a hb2 _))).mono ?_; rintro r w4 ⟨rfl, hb4⟩) | (go_at_call 194; with_reducible refine (s2 _ _ (by simp) (hB0.below (bl_t (bl_a hb2 _) hb4))).mono ?_; rintro r w5 ⟨rfl, rfl⟩) | (go_at_call 175; refine (h9 _ (hB0.below (bl_a (bl_t (bl_a hb2 _) hb4) _))).mono ?_; rintro r w9 ⟨rfl, hb9⟩; obtain ⟨kc, kf, kz⟩ := keepT (bl_t (bl_a (bl_t (bl_a hb2 _) hb4) _) hb9)))
 refine bodyPost_ret (v := .tuple #[tokV ⟨2, t, i, m⟩, .nilIface]) ?_ rfl ?_
 all_goals first | (exact ⟨by rw [← HT.out]; rfl, (by with_reducible repeat (first | exact Below.refl _ _ | refine bl_t ?_ hb9 | refine bl_t ?_ hb4 | refine bl_t ?_ hb2 | refine bl_a ?_ _ | refine bl_s ?_ (by omega) _))⟩) | (simp [results, Tryz.results178, go_sem, tokV, kc])

set_option maxRecDepth 100000 in
set_option maxHeartbeats 1600000 in
theorem number_d_err (l : List UInt8) (i k m n : Nat) (v : Value) (w : World) (hB : Byt w v l) (hi : i < l.length) (hm : l.length ≤ 281474976710656) (hw : wholeL l i = .ok k) (hd : hasAt l k (· == 46) = true) (hf : digitsL l (k + 1) = .ok m) (he : hasAt l m (fun c => c == 101 || c == 69) = true) (hx : exponentL l (m + 1) = .error n) :
  Calls Tryz.prog 178 #[v, .int .i64 i] w fun r w' => r = .returned (tkV (.error n)) ∧ Below w.heap.size w w' := by
 have hB0 : Byt (w.alloc (.cells #[.int .i64 0, .string ⟨#[]⟩, .int .i64 0, .int .i64 0] 120)) v l := Row.alloc hB _
 have h1 := whole_any l i v _ hB0 (by omega) hm
 have hkl := (wholeL_le hw).2
 have s1 := fun (w' : World) (b' : Nat) (hk : w'.heap.size = b') (hb : Byt w' v l) => (show Calls Tryz.prog 194 #[v, .int .i64 (k : Int), .slice (some ⟨b', 0, none⟩) 1 1] (w'.alloc (.cells #[.int .u8 46] 5)) fun r w2 => r = .returned (.bool true) ∧ w2 = w'.alloc (.cells #[.int .u8 46] 5) from stands_ws l k v [46] #[.int .u8 46] 1 (· == 46) true w' rfl rfl (by decide) b' hk hb (by omega) hm (fun c => by simp) (by assumption))
 have hk1 := hasAt_lt hd
 have hml := (digitsL_le hf).2
 have h2 := fun w' (hb : Byt w' v l) => (show Calls Tryz.prog 195 #[v, .int .i64 ((k : Int) + 1)] w' fun r w2 => r = .returned (plV (digitsL l (k + 1))) ∧ Below w'.heap.size w' w2 from by have := digits_any l (k + 1) v w' hb (by omega) hm; simpa using this)
 have s2 := fun (w' : World) (b' : Nat) (hk : w'.heap.size = b') (hb : Byt w' v l) => (show Calls Tryz.prog 194 #[v, .int .i64 (m : Int), .slice (some ⟨b', 0, none⟩) 2 2] (w'.alloc (.cells #[.int .u8 101, .int .u8 69] 5)) fun r w2 => r = .returned (.bool true) ∧ w2 = w'.alloc (.cells #[.int .u8 101, .int .u8 69] 5) from stands_ws l m v [101, 69] #[.int .u8 101, .int .u8 69] 2 (fun c => c == 101 || c == 69) true w' rfl rfl (by decide) b' hk hb (by omega) hm (fun c => by simp) (by assumption))
 have he1 := hasAt_lt he
 have h3 := fun w' (hb : Byt w' v l) => (show Calls Tryz.prog 196 #[v, .int .i64 ((m : Int) + 1)] w' fun r w2 => r = .returned (plV (exponentL l (m + 1))) ∧ Below w'.heap.size w' w2 from by have := exponent_any l (m + 1) v w' hb (by omega) hm; simpa using this)
 rw [hw] at h1
 rw [hf] at h2
 rw [hx] at h3
 simp only [plV, errV] at h1 h2 h3
 clear hw hd hf he hx
 go_enter Tryz.func178, Tryz.ntmps178
 go_wp2_with (first | (go_at_call 193; refine h1.mono ?_; rintro r w2 ⟨rfl, hb2⟩) | (go_at_call 194; with_reducible refine (s1 _ _ rfl (hB0.below hb2)).mono ?_; rintro r w3 ⟨rfl, rfl⟩) | (go_at_call 195; refine (h2 _ (hB0.below (bl_a hb2 _))).mono ?_; rintro r w4 ⟨rfl, hb4⟩) | (go_at_call 194; with_reducible refine (s2 _ _ (by simp) (hB0.below (bl_t (bl_a hb2 _) hb4))).mono ?_; rintro r w5 ⟨rfl, rfl⟩) | (go_at_call 196; refine (h3 _ (hB0.below (bl_a (bl_t (bl_a hb2 _) hb4) _))).mono ?_; rintro r w6 ⟨rfl, hb6⟩; obtain ⟨kc, kf, kz⟩ := keepT (bl_t (bl_a (bl_t (bl_a hb2 _) hb4) _) hb6)))
 refine bodyPost_ret (v := .tuple #[tokV ⟨0, [], 0, 0⟩, errV n]) ?_ rfl ?_
 all_goals first | (exact ⟨rfl, (by with_reducible repeat (first | exact Below.refl _ _ | refine bl_t ?_ hb6 | refine bl_t ?_ hb4 | refine bl_t ?_ hb2 | refine bl_a ?_ _ | refine bl_s ?_ (by omega) _))⟩) | (simp [results, Tryz.results178, go_sem, tokV, errV, kc])

set_option maxRecDepth 100000 in
set_option maxHeartbeats 1600000 in
theorem number_d_ok (l : List UInt8) (i k m q : Nat) (v : Value) (w : World) (hB : Byt w v l) (hi : i < l.length) (hm : l.length ≤ 281474976710656) (hw : wholeL l i = .ok k) (hd : hasAt l k (· == 46) = true) (hf : digitsL l (k + 1) = .ok m) (he : hasAt l m (fun c => c == 101 || c == 69) = true) (hx : exponentL l (m + 1) = .ok q) :
  Calls Tryz.prog 178 #[v, .int .i64 i] w fun r w' => r = .returned (tkV (stands 2 l i (.ok q))) ∧ Below w.heap.size w w' := by
 have hB0 : Byt (w.alloc (.cells #[.int .i64 0, .string ⟨#[]⟩, .int .i64 0, .int .i64 0] 120)) v l := Row.alloc hB _
 have h1 := whole_any l i v _ hB0 (by omega) hm
 have hik := (wholeL_le hw).1
 have hkm := (digitsL_le hf).1
 have hkl := (wholeL_le hw).2
 have s1 := fun (w' : World) (b' : Nat) (hk : w'.heap.size = b') (hb : Byt w' v l) => (show Calls Tryz.prog 194 #[v, .int .i64 (k : Int), .slice (some ⟨b', 0, none⟩) 1 1] (w'.alloc (.cells #[.int .u8 46] 5)) fun r w2 => r = .returned (.bool true) ∧ w2 = w'.alloc (.cells #[.int .u8 46] 5) from stands_ws l k v [46] #[.int .u8 46] 1 (· == 46) true w' rfl rfl (by decide) b' hk hb (by omega) hm (fun c => by simp) (by assumption))
 have hk1 := hasAt_lt hd
 have hml := (digitsL_le hf).2
 have h2 := fun w' (hb : Byt w' v l) => (show Calls Tryz.prog 195 #[v, .int .i64 ((k : Int) + 1)] w' fun r w2 => r = .returned (plV (digitsL l (k + 1))) ∧ Below w'.heap.size w' w2 from by have := digits_any l (k + 1) v w' hb (by omega) hm; simpa using this)
 have s2 := fun (w' : World) (b' : Nat) (hk : w'.heap.size = b') (hb : Byt w' v l) => (show Calls Tryz.prog 194 #[v, .int .i64 (m : Int), .slice (some ⟨b', 0, none⟩) 2 2] (w'.alloc (.cells #[.int .u8 101, .int .u8 69] 5)) fun r w2 => r = .returned (.bool true) ∧ w2 = w'.alloc (.cells #[.int .u8 101, .int .u8 69] 5) from stands_ws l m v [101, 69] #[.int .u8 101, .int .u8 69] 2 (fun c => c == 101 || c == 69) true w' rfl rfl (by decide) b' hk hb (by omega) hm (fun c => by simp) (by assumption))
 have he1 := hasAt_lt he
 have h3 := fun w' (hb : Byt w' v l) => (show Calls Tryz.prog 196 #[v, .int .i64 ((m : Int) + 1)] w' fun r w2 => r = .returned (plV (exponentL l (m + 1))) ∧ Below w'.heap.size w' w2 from by have := exponent_any l (m + 1) v w' hb (by omega) hm; simpa using this)
 have hql := exponentL_le hx
 rw [hw] at h1
 rw [hf] at h2
 rw [hx] at h3
 simp only [plV] at h1 h2 h3
 have h9 := fun w' (hb : Byt w' v l) => asItStands_any 2 l i q v w' hb hi (by omega) (by omega)
 simp only [tokV] at h9
 clear hw hd hf he hx
 obtain ⟨t, ht⟩ : ∃ t, sub l i q = t := ⟨_, rfl⟩
 have HT : Hid (sub l i q = t) := ht
 rw [ht] at h9
 clear ht
 go_enter Tryz.func178, Tryz.ntmps178
 go_wp2_with (first | (go_at_call 193; refine h1.mono ?_; rintro r w2 ⟨rfl, hb2⟩) | (go_at_call 194; with_reducible refine (s1 _ _ rfl (hB0.below hb2)).mono ?_; rintro r w3 ⟨rfl, rfl⟩) | (go_at_call 195; refine (h2 _ (hB0.below (bl_a hb2 _))).mono ?_; rintro r w4 ⟨rfl, hb4⟩) | (go_at_call 194; with_reducible refine (s2 _ _ (by simp) (hB0.below (bl_t (bl_a hb2 _) hb4))).mono ?_; rintro r w5 ⟨rfl, rfl⟩) | (go_at_call 196; refine (h3 _ (hB0.below (bl_a (bl_t (bl_a hb2 _) hb4) _))).mono ?_; rintro r w6 ⟨rfl, hb6⟩) | (go_at_call 175; refine (h9 _ (hB0.below (bl_t (bl_a (bl_t (bl_a hb2 _) hb4) _) hb6))).mono ?_; rintro r w9 ⟨rfl, hb9⟩; obtain ⟨kc, kf, kz⟩ := keepT (bl_t (bl_t (bl_a (bl_t (bl_a hb2 _) hb4) _) hb6) hb9)))
 refine bodyPost_ret (v := .tuple #[tokV ⟨2, t, i, q⟩, .nilIface]) ?_ rfl ?_
 all_goals first | (exact ⟨by rw [← HT.out]; rfl, (by with_reducible repeat (first | exact Below.refl _ _ | refine bl_t ?_ hb9 | refine bl_t ?_ hb6 | refine bl_t ?_ hb4 | refine bl_t ?_ hb2 | refine bl_a ?_ _ | refine bl_s ?_ (by omega) _))⟩) | (simp [results, Tryz.results178, go_sem, tokV, kc])

theorem number_any (l : List UInt8) (i : Nat) (v : Value) (w : World) (hB : Byt w v l) (hi : i < l.length) (hm : l.length ≤ 281474976710656) :
  Calls Tryz.prog 178 #[v, .int .i64 i] w fun r w' => r = .returned (tkV (stands 2 l i (numberL l i))) ∧ Below w.heap.size w w' := by
 unfold numberL
 cases hw : wholeL l i with
 | error n => exact number_w l i n v w hB hi hm hw
 | ok k =>
  cases hd : hasAt l k (· == 46)
  ·rw [show fracPart l (.ok k) = .ok k by simp [fracPart, hd]]
   cases he : hasAt l k (fun c => c == 101 || c == 69)
   ·rw [show expPart l (.ok k) = .ok k by simp [expPart, he]]
    exact number_n_no l i k v w hB hi hm hw hd he
   ·rw [show expPart l (.ok k) = exponentL l (k + 1) by simp [expPart, he]]
    cases hx : exponentL l (k + 1) with
    | error n => exact number_n_err l i k n v w hB hi hm hw hd he hx
    | ok q => exact number_n_ok l i k q v w hB hi hm hw hd he hx
  ·rw [show fracPart l (.ok k) = digitsL l (k + 1) by simp [fracPart, hd]]
   cases hf : digitsL l (k + 1) with
   | error n => exact number_f l i k n v w hB hi hm hw hd hf
   | ok m =>
    cases he : hasAt l m (fun c => c == 101 || c == 69)
    ·rw [show expPart l (.ok m) = .ok m by simp [expPart, he]]
     exact number_d_no l i k m v w hB hi hm hw hd hf he
    ·rw [show expPart l (.ok m) = exponentL l (m + 1) by simp [expPart, he]]
     cases hx : exponentL l (m + 1) with
     | error n => exact number_d_err l i k m n v w hB hi hm hw hd hf he hx
     | ok q => exact number_d_ok l i k m q v w hB hi hm hw hd hf he hx
end Go.Proofs.YtjdboekanmfgpaaGreatDoor.Lx
