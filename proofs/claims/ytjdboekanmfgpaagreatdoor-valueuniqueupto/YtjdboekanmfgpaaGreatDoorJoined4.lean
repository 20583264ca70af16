/-
  What dec.splitDigits, dec.splitWhole and dec.cutAny answer: what stands ahead of a text. No condition but that the bytes to look for lie in memory.
  ref6.Same answers true of two values that are the same tree. Conditions: none.
-/
import Derived.Test.YtjdboekanmfgpaaGreatDoorJoined2
import Derived.Test.YtjdboekanmfgpaaGreatDoorJoined3
import Derived.Test.YtjdboekanmfgpaaGreatDoorJoined0
import Derived.Laws.StructEq
import Derived.Deep.RegionHeld3
namespace Go.Proofs.YtjdboekanmfgpaaGreatDoor
open Go.RowKit

theorem setCell_drewN (w : World) (n : Nat) (a : Addr) (v : Value) : (w.drewN n).setCell a v = (w.setCell a v).drewN n := rfl
theorem alloc_drewN (w : World) (n : Nat) (o : Obj) : (w.drewN n).alloc o = (w.alloc o).drewN n := rfl
/-- A text of bytes. -/
def bs (l : List UInt8) : ByteArray := ⟨l.toArray⟩
theorem bs_self (s : ByteArray) : bs s.data.toList = s := rfl
theorem bs_list (l : List UInt8) : (bs l).data.toList = l := rfl
theorem bs_size (l : List UInt8) : (bs l).size = l.length := by rw [← len_of]; rfl
theorem extract_to (s : ByteArray) (k : Nat) : s.extract 0 k = bs (s.data.toList.take k) := Lib.extract_upto s k
theorem extract_from' (s : ByteArray) (k : Nat) : s.extract k s.size = bs (s.data.toList.drop k) := Lib.extract_from s k

theorem split_ret (s : ByteArray) (k : Nat) (h : Ahead s k) : Ending.returned (.tuple #[.string (s.extract 0 k), .string (s.extract k s.size), .bool (decide (0 < k))]) = .returned (.tuple #[.string (bs (tw s.data.toList)), .string (bs (dw s.data.toList)), .bool (decide (tw s.data.toList ≠ []))]) := by
 rw [extract_to, extract_from', h.2.1, h.2.2]
 have : (0 < k) ↔ (s.data.toList.take k ≠ []) := by
  have hl : (s.data.toList.take k).length = k := by rw [List.length_take, len_of]; have := h.1; omega
  rw [← hl, List.length_pos_iff]; simp [hl]
 rw [decide_eq_decide.2 this]

set_option maxHeartbeats 800000 in
theorem splitDigits_any (s : ByteArray) (w : World) (hs : s.size ≤ maxLen) :
  Calls Tryz.prog 225 #[.string s] w fun e w' => e = .returned (.tuple #[.string (bs (tw s.data.toList)), .string (bs (dw s.data.toList)), .bool (decide (tw s.data.toList ≠ []))]) ∧ ∃ q, w' = w.drewN q := by
 have ha := ahead_any s w hs
 unfold maxLen at hs
 go_enter Tryz.func225, Tryz.ntmps225
 go_wp2_with (go_at_call 136; refine ha.mono ?_; rintro e w' ⟨⟨k, rfl, hk⟩, rfl⟩)
 have hk1 := hk.1
 have HK : Hid (Ahead s k) := hk
 clear hk ha
 have hI : (k : Int) ≤ (s.size : Int) := by omega
 go_quiet (fail)
 go_wp2
 go_ret3
 exact ⟨split_ret s k HK.out, nq, rfl⟩

theorem hasPrefix_one (l : List UInt8) (c : UInt8) : Lib.hasPrefix l [c] = decide (l.head? = some c) := by
 cases l with
 | nil => rfl
 | cons d t =>
  by_cases h : c = d
  ·subst h; simp [Lib.hasPrefix, List.isPrefixOf]
  ·have h' : ¬ d = c := fun e => h e.symm
   simp [Lib.hasPrefix, List.isPrefixOf, h, h']
theorem cut_yes (s : ByteArray) (c : UInt8) (w : World) (h : s.data.toList.head? = some c) :
  Calls Tryz.prog 223 #[.string s, .string ⟨#[c]⟩] w fun e w' => e = .returned (.tuple #[.string (bs s.data.toList.tail), .bool true]) ∧ w = w' := by
 refine (Tryz.strings_CutPrefix s ⟨#[c]⟩ w).mono ?_
 rintro e w' ⟨rfl, rfl⟩
 have hp : Lib.hasPrefix s.data.toList [c] = true := by rw [hasPrefix_one]; exact decide_eq_true h
 have e1 : Lib.trimPrefix s.data.toList [c] = s.data.toList.tail := by rw [Lib.trimPrefix, if_pos hp]; simp
 refine ⟨?_, rfl⟩
 show Ending.returned (.tuple #[.string ⟨(Lib.trimPrefix s.data.toList [c]).toArray⟩, .bool (Lib.hasPrefix s.data.toList [c])]) = _
 rw [e1, hp]; rfl
theorem cut_no (s : ByteArray) (c : UInt8) (w : World) (h : s.data.toList.head? ≠ some c) :
  Calls Tryz.prog 223 #[.string s, .string ⟨#[c]⟩] w fun e w' => e = .returned (.tuple #[.string s, .bool false]) ∧ w = w' := by
 refine (Tryz.strings_CutPrefix s ⟨#[c]⟩ w).mono ?_
 rintro e w' ⟨rfl, rfl⟩
 have hp : Lib.hasPrefix s.data.toList [c] = false := by rw [hasPrefix_one]; exact decide_eq_false h
 have e1 : Lib.trimPrefix s.data.toList [c] = s.data.toList := by rw [Lib.trimPrefix, if_neg (by rw [hp]; decide)]
 refine ⟨?_, rfl⟩
 show Ending.returned (.tuple #[.string ⟨(Lib.trimPrefix s.data.toList [c]).toArray⟩, .bool (Lib.hasPrefix s.data.toList [c])]) = _
 rw [e1, hp]
theorem has_one (s : ByteArray) (c : UInt8) (w : World) :
  Calls Tryz.prog 227 #[.string s, .string ⟨#[c]⟩] w fun e w' => e = .returned (.bool (decide (s.data.toList.head? = some c))) ∧ w = w' := by
 refine (Tryz.strings_HasPrefix s ⟨#[c]⟩ w).mono ?_
 rintro e w' ⟨rfl, rfl⟩
 exact ⟨by rw [← hasPrefix_one], rfl⟩

set_option maxHeartbeats 400000 in
theorem splitWhole_nought (s : ByteArray) (w : World) (h : s.data.toList.head? = some 48) :
  Calls Tryz.prog 224 #[.string s] w fun e w' => e = .returned (.tuple #[.string (bs [48]), .string (bs s.data.toList.tail), .bool true]) ∧ ∃ q, w' = w.drewN q := by
 have hc := fun w => cut_yes s 48 w h
 clear h
 go_enter Tryz.func224, Tryz.ntmps224
 go_wp2_with (go_at_call 223; refine (hc _).mono ?_; rintro e w' ⟨rfl, rfl⟩)
 go_ret3
 exact ⟨rfl, 0, rfl⟩

set_option maxHeartbeats 400000 in
theorem splitWhole_digits (s : ByteArray) (w : World) (hs : s.size ≤ maxLen) (h : s.data.toList.head? ≠ some 48) :
  Calls Tryz.prog 224 #[.string s] w fun e w' => e = .returned (.tuple #[.string (bs (tw s.data.toList)), .string (bs (dw s.data.toList)), .bool (decide (tw s.data.toList ≠ []))]) ∧ ∃ q, w' = w.drewN q := by
 have hc := fun w => cut_no s 48 w h
 have hd := fun w => splitDigits_any s w hs
 clear h hs
 generalize decide (tw s.data.toList ≠ []) = ok at *
 go_enter Tryz.func224, Tryz.ntmps224
 go_wp2_with (first | (go_at_call 223; refine (hc _).mono ?_; rintro e w' ⟨rfl, rfl⟩) | (go_at_call 225; refine (hd _).mono ?_; rintro e w' ⟨rfl, q, rfl⟩))
 go_ret3
 exact ⟨rfl, q, rfl⟩

theorem size_zero {s : ByteArray} (h : s.size = 0) : s = ⟨#[]⟩ := by
 have h0 := (nil_size s).2 h
 obtain ⟨⟨l⟩⟩ := s
 simp only at h0
 rw [h0]
theorem head_byte (s : ByteArray) (h : 0 < s.size) : ∃ b : UInt8, s.data.toList.head? = some b ∧ (b.toNat : Int) = cx s 0 := by
 obtain ⟨b, hb, hc⟩ := cx_get s 0 h
 exact ⟨b, by rw [List.head?_eq_getElem?, hb], hc⟩

theorem toList_ne {s : ByteArray} (h : 0 < s.size) : s.toList.isEmpty = false := by
 rw [ByteArray.toList_eq]
 cases hl : s.data.toList with
 | nil => have := (nil_size s).1 hl; omega
 | cons c t => rfl
theorem toNat_ne {a b : UInt8} (h : ¬ a = b) : ((a.toNat : Int) == (b.toNat : Int)) = false := beq_eq_false_iff_ne.2 (fun e => h (UInt8.toNat_inj.1 (by omega)))
theorem tup2 {a b : ByteArray} {o : Bool} (h : a = b) : Ending.returned (.tuple #[.string a, .bool o]) = .returned (.tuple #[.string b, .bool o]) := by rw [h]

set_option maxHeartbeats 400000 in
theorem cutAny_yes (s : ByteArray) (b : Nat) (x y : UInt8) (w : World) (c0 : w.cell? ⟨b, 0, none⟩ = some (.int .u8 x.toNat)) (c1 : w.cell? ⟨b, 1, none⟩ = some (.int .u8 y.toNat)) (h : s.data.toList.head? = some x ∨ s.data.toList.head? = some y) :
  Calls Tryz.prog 226 #[.string s, .slice (some ⟨b, 0, none⟩) 2 2] w fun e w' => e = .returned (.tuple #[.string (bs s.data.toList.tail), .bool true]) ∧ w = w' := by
 have h0 : 0 < s.size := by
  rcases Nat.eq_zero_or_pos s.size with z | z
  ·rw [(nil_size s).2 z] at h; simp at h
  ·exact z
 have hx := cx_at s 0 h0
 have he : Hid (s.extract 1 s.size = bs s.data.toList.tail) := by show _ = _; rw [extract_from', List.drop_one]
 obtain ⟨a, ha, hc⟩ := head_byte s h0
 have hI : (1 : Int) ≤ (s.size : Int) := by omega
 have hn := toList_ne h0
 rw [ha] at h
 rw [← hc] at hx
 by_cases e : a = x
 ·subst e
  clear h ha hc
  go_enter Tryz.func226, Tryz.ntmps226
  go_wp2
  refine wp_loop_rounds 1 ?_
  rw [rounds_succ]
  go_wp2
  go_ret2
  exact ⟨tup2 he.out, rfl⟩
 ·have e2 : a = y := by
   rcases h with h | h
   ·exact absurd (Option.some.inj h) e
   ·exact Option.some.inj h
  subst e2
  have en := toNat_ne e
  clear h ha hc e
  go_enter Tryz.func226, Tryz.ntmps226
  go_wp2
  refine wp_loop_rounds 2 ?_
  rw [rounds_succ]
  go_wp2
  rw [rounds_succ]
  go_wp2
  go_ret2
  exact ⟨tup2 he.out, rfl⟩

set_option maxHeartbeats 400000 in
theorem cutAny_no (s : ByteArray) (b : Nat) (x y : UInt8) (w : World) (c0 : w.cell? ⟨b, 0, none⟩ = some (.int .u8 x.toNat)) (c1 : w.cell? ⟨b, 1, none⟩ = some (.int .u8 y.toNat)) (h : ¬ (s.data.toList.head? = some x ∨ s.data.toList.head? = some y)) :
  Calls Tryz.prog 226 #[.string s, .slice (some ⟨b, 0, none⟩) 2 2] w fun e w' => e = .returned (.tuple #[.string s, .bool false]) ∧ w = w' := by
 by_cases z : s.size = 0
 ·have hn : s.toList = [] := by rw [ByteArray.toList_eq]; exact (nil_size s).2 z
  clear h z
  go_enter Tryz.func226, Tryz.ntmps226
  go_wp2
  refine wp_loop_rounds 3 ?_
  rw [rounds_succ]
  go_wp2
  rw [rounds_succ]
  go_wp2
  rw [rounds_succ]
  go_wp2
  go_ret2
  exact ⟨rfl, rfl⟩
 ·have h0 : 0 < s.size := by omega
  have hx := cx_at s 0 h0
  obtain ⟨a, ha, hc⟩ := head_byte s h0
  have hI : (0 : Int) < (s.size : Int) := by omega
  have hn := toList_ne h0
  rw [ha] at h
  rw [← hc] at hx
  have e1 := toNat_ne (a := a) (b := x) (fun e => h (.inl (by rw [e])))
  have e2 := toNat_ne (a := a) (b := y) (fun e => h (.inr (by rw [e])))
  clear h ha hc z
  go_enter Tryz.func226, Tryz.ntmps226
  go_wp2
  refine wp_loop_rounds 3 ?_
  rw [rounds_succ]
  go_wp2
  rw [rounds_succ]
  go_wp2
  rw [rounds_succ]
  go_wp2
  go_ret2
  exact ⟨rfl, rfl⟩
end Go.Proofs.YtjdboekanmfgpaaGreatDoor

namespace Go.Proofs.YtjdboekanmfgpaaGreatDoor
open Go.RowKit
attribute [local go_sem] setCell_drewN alloc_drewN

structure C7 (w : World) (b : Nat) (x0 x1 x2 x3 x4 x5 x6 : Value) : Prop where
 c0 : w.cell? ⟨b, 0, none⟩ = some x0
 c1 : w.cell? ⟨b, 1, none⟩ = some x1
 c2 : w.cell? ⟨b, 2, none⟩ = some x2
 c3 : w.cell? ⟨b, 3, none⟩ = some x3
 c4 : w.cell? ⟨b, 4, none⟩ = some x4
 c5 : w.cell? ⟨b, 5, none⟩ = some x5
 c6 : w.cell? ⟨b, 6, none⟩ = some x6
 z0 : w.frozen? ⟨b, 0, none⟩ = false
 z1 : w.frozen? ⟨b, 1, none⟩ = false
 z2 : w.frozen? ⟨b, 2, none⟩ = false
 z3 : w.frozen? ⟨b, 3, none⟩ = false
 z4 : w.frozen? ⟨b, 4, none⟩ = false
 z5 : w.frozen? ⟨b, 5, none⟩ = false
 z6 : w.frozen? ⟨b, 6, none⟩ = false
theorem C7.new (w : World) (x0 x1 x2 x3 x4 x5 x6 : Value) (t : TypeId) : C7 (w.alloc (.cells #[x0, x1, x2, x3, x4, x5, x6] t)) w.heap.size x0 x1 x2 x3 x4 x5 x6 := by
 constructor <;> first | exact World.frozen?_alloc_at _ _ _ _ rfl | (rw [World.cell?_alloc_at _ _ _ _ rfl]; rfl)
theorem C7.lt {w : World} {b : Nat} {x0 x1 x2 x3 x4 x5 x6 : Value} (h : C7 w b x0 x1 x2 x3 x4 x5 x6) : b < w.heap.size := World.block_lt_of_cell? w _ h.c0
theorem C7.below {w w' : World} {b B : Nat} {x0 x1 x2 x3 x4 x5 x6 : Value} (h : C7 w b x0 x1 x2 x3 x4 x5 x6) (hb : Below B w w') (hlt : b < B) : C7 w' b x0 x1 x2 x3 x4 x5 x6 := by
 have k : ∀ o, w'.cell? ⟨b, o, none⟩ = w.cell? ⟨b, o, none⟩ := fun o => hb.cell hlt
 have f : ∀ o, w'.frozen? ⟨b, o, none⟩ = w.frozen? ⟨b, o, none⟩ := fun o => hb.frozen hlt
 exact ⟨(k _).trans h.c0, (k _).trans h.c1, (k _).trans h.c2, (k _).trans h.c3, (k _).trans h.c4, (k _).trans h.c5, (k _).trans h.c6, (f _).trans h.z0, (f _).trans h.z1, (f _).trans h.z2, (f _).trans h.z3, (f _).trans h.z4, (f _).trans h.z5, (f _).trans h.z6⟩
theorem C7.al {w : World} {b : Nat} {x0 x1 x2 x3 x4 x5 x6 : Value} (h : C7 w b x0 x1 x2 x3 x4 x5 x6) (o : Obj) : C7 (w.alloc o) b x0 x1 x2 x3 x4 x5 x6 := h.below (bl_a (Below.refl _ _) _) h.lt
theorem eqIn_same (a : Bool) (s : ByteArray) (e : Int) (w : World) :
  (Op.equalIn 10000 24 (.agg #[.bool a, .string s, .int .i64 e]) (.agg #[.bool a, .string s, .int .i64 e])).run Tryz.prog w = .ok true w := by
 have u3 := Tryz.underlying3
 have u4 := Tryz.underlying4
 have u9 := Tryz.underlying9
 have a3 := Tryz.isAgg3
 have a4 := Tryz.isAgg4
 have a9 := Tryz.isAgg9
 have z3 := Tryz.sizeOf3
 have z4 := Tryz.sizeOf4
 have z9 := Tryz.sizeOf9
 have hS : Tryz.prog.underlying 24 = some (.struct (Tryz.prog.fieldsOf 24)) := by kernel_rfl
 have hp : Tryz.prog.stoodInHeld 24 = false := by kernel_rfl
 rw [show (10000 : Nat) = 9999 + 1 from rfl, run_equalIn_agg w 9999 24 _ _ hS hp]
 simp only [Program.fieldsOf, Tryz.underlying24]
 go_simp
theorem neq_same (a : Bool) (s : ByteArray) (e : Int) (w : World) :
  (binOp .neq 24 (.agg #[.bool a, .string s, .int .i64 e]) (.agg #[.bool a, .string s, .int .i64 e])).run Tryz.prog w = .ok (.bool false) w := by
 rw [run_neq_struct, eqIn_same]; rfl

set_option maxRecDepth 100000 in
set_option maxHeartbeats 3200000 in
theorem same_refl (v : JV) : ∀ (f f' : Nat → Value) (w : World), VI w (fun _ => False) v f → VI w (fun _ => False) v f' →
  Calls Tryz.prog 18 #[va f, va f'] w fun r w' => r = .returned (.bool true) ∧ Below w.heap.size w w' := by
 induction v using JV.ind with
 | h k n g e t l ks ih =>
 intro f f' w hv hv'
 obtain ⟨ao, cap, ko, kc, G, hva, s1, s2, hr, hl, hk⟩ := hv.open
 obtain ⟨ao', cap', ko', kc', G', hva', _, _, hr', hl', hk'⟩ := hv'.open
 rw [hva, hva']
 clear hva hva' hv hv'
 have hdec := neq_same n g e
 have htx : (t.toList == t.toList) = true := by simp
 have hlI : (l.length : Int) ≤ 9223372036854775807 := by unfold maxLen at s1; omega
 have hkI : (ks.length : Int) ≤ 9223372036854775807 := by unfold maxLen at s2; omega
 generalize hW : (w.alloc (.cells #[.int .i64 k, .bool n, .string g, .int .i64 e, .string t, .slice ao l.length cap, .slice ko ks.length kc] 28)).alloc (.cells #[.int .i64 k, .bool n, .string g, .int .i64 e, .string t, .slice ao' l.length cap', .slice ko' ks.length kc'] 28) = W
 have hbW : Below w.heap.size w W := by rw [← hW]; exact bl_a (bl_a (Below.refl _ _) _) _
 have hA : C7 W w.heap.size (.int .i64 k) (.bool n) (.string g) (.int .i64 e) (.string t) (.slice ao l.length cap) (.slice ko ks.length kc) := by
  rw [← hW]; exact (C7.new w _ _ _ _ _ _ _ _).al _
 have hB : C7 W (w.heap.size + 1) (.int .i64 k) (.bool n) (.string g) (.int .i64 e) (.string t) (.slice ao' l.length cap') (.slice ko' ks.length kc') := by
  rw [← hW]
  have := C7.new (w.alloc (.cells #[.int .i64 k, .bool n, .string g, .int .i64 e, .string t, .slice ao l.length cap, .slice ko ks.length kc] 28)) (.int .i64 k) (.bool n) (.string g) (.int .i64 e) (.string t) (.slice ao' l.length cap') (.slice ko' ks.length kc') 28
  simpa using this
 have HA : Hid (∀ w', Below W.heap.size W w' → C7 w' w.heap.size (.int .i64 k) (.bool n) (.string g) (.int .i64 e) (.string t) (.slice ao l.length cap) (.slice ko ks.length kc)) := fun w' hb => hA.below hb hA.lt
 have HB : Hid (∀ w', Below W.heap.size W w' → C7 w' (w.heap.size + 1) (.int .i64 k) (.bool n) (.string g) (.int .i64 e) (.string t) (.slice ao' l.length cap') (.slice ko' ks.length kc')) := fun w' hb => hB.below hb hB.lt
 have HK : Hid (∀ w', Below W.heap.size W w' → (ks = [] ∨ ∃ b off, ko = some ⟨b, off, none⟩ ∧ ∀ i (h : i < ks.length), w'.cell? ⟨b, off + i, none⟩ = some (.string ks[i]))) := fun w' hb => by
  rcases hk with hk | ⟨b, off, h1, h2, h3⟩
  ·exact .inl hk
  ·exact .inr ⟨b, off, h1, fun i hi => by rw [(bl_t hbW hb).cell (p := ⟨b, off + i, none⟩) h2]; exact h3 i hi⟩
 have HK' : Hid (∀ w', Below W.heap.size W w' → (ks = [] ∨ ∃ b off, ko' = some ⟨b, off, none⟩ ∧ ∀ i (h : i < ks.length), w'.cell? ⟨b, off + i, none⟩ = some (.string ks[i]))) := fun w' hb => by
  rcases hk' with hk | ⟨b, off, h1, h2, h3⟩
  ·exact .inl hk
  ·exact .inr ⟨b, off, h1, fun i hi => by rw [(bl_t hbW hb).cell (p := ⟨b, off + i, none⟩) h2]; exact h3 i hi⟩
 have HL : Hid (∀ w', Below W.heap.size W w' → (l = [] ∨ ∃ b off, ao = some ⟨b, off, none⟩ ∧ ∀ i, i < l.length → ∀ j, j < 7 → w'.cell? ⟨b, off + i * 7 + j, none⟩ = some (G i j))) := fun w' hb => by
  rcases hl with hl | ⟨b, off, h1, h2, h3⟩
  ·exact .inl hl
  ·exact .inr ⟨b, off, h1, fun i hi j hj => by rw [(bl_t hbW hb).cell (p := ⟨b, off + i * 7 + j, none⟩) h2]; exact h3 i hi j hj⟩
 have HL' : Hid (∀ w', Below W.heap.size W w' → (l = [] ∨ ∃ b off, ao' = some ⟨b, off, none⟩ ∧ ∀ i, i < l.length → ∀ j, j < 7 → w'.cell? ⟨b, off + i * 7 + j, none⟩ = some (G' i j))) := fun w' hb => by
  rcases hl' with hl | ⟨b, off, h1, h2, h3⟩
  ·exact .inl hl
  ·exact .inr ⟨b, off, h1, fun i hi j hj => by rw [(bl_t hbW hb).cell (p := ⟨b, off + i * 7 + j, none⟩) h2]; exact h3 i hi j hj⟩
 have HI : Hid (∀ w' i (h : i < l.length), Below W.heap.size W w' → Calls Tryz.prog 18 #[.agg #[G i 0, G i 1, G i 2, G i 3, G i 4, G i 5, G i 6], .agg #[G' i 0, G' i 1, G' i 2, G' i 3, G' i 4, G' i 5, G' i 6]] w' fun r w2 => r = .returned (.bool true) ∧ Below w'.heap.size w' w2) := fun w' i h hb => ih l[i] (List.getElem_mem h) (G i) (G' i) w' ((hr i h).kept (bl_t hbW hb)) ((hr' i h).kept (bl_t hbW hb))
 have HX : Hid (∀ w', Below W.heap.size W w' → Below w.heap.size w w') := fun w' hb => bl_t hbW hb
 clear hk hk' hl hl' hr hr' ih hbW s1 s2
 obtain ⟨a0, a1, a2, a3, a4, a5, a6, _, _, _, _, _, _, _⟩ := hA
 obtain ⟨b0, b1, b2, b3, b4, b5, b6, _, _, _, _, _, _, _⟩ := hB
 go_enter Tryz.func18, Tryz.ntmps18
 go_wp2_with fail
 clear a0 a1 a2 a3 a4 a5 a6 b0 b1 b2 b3 b4 b5 b6 hdec htx
 go_loopw [5] (fun tv wr => ∃ i : Nat, i ≤ ks.length ∧ tv = .int .i64 i ∧ Hid (Below W.heap.size W wr)) (fun tv _ => ks.length - (intOf tv).toNat)
 case atStart => exact ⟨0, Nat.zero_le _, rfl, Below.refl _ _⟩
 case round =>
  obtain ⟨i, hi, rfl, HW⟩ := hrel
  have a6 := (HA.out wr HW.out).c6
  have b6 := (HB.out wr HW.out).c6
  by_cases hlt : i < ks.length
  ·have hI : (i : Int) < (ks.length : Int) := by omega
   obtain ⟨b, off, rfl, hc⟩ := (HK.out wr HW.out).resolve_left (fun e => by rw [e] at hlt; exact absurd hlt (by simp))
   obtain ⟨b', off', rfl, hc'⟩ := (HK'.out wr HW.out).resolve_left (fun e => by rw [e] at hlt; exact absurd hlt (by simp))
   have d1 := hc i hlt
   have d2 := hc' i hlt
   have heq : (ks[i].toList == ks[i].toList) = true := by simp
   clear hc hc' HA HB HK HK' HL HL' HI HX
   generalize ks[i] = y at *
   go_wp2_with fail
   go_quiet (fail)
   go_wp2
   go_roundw
   case rel => exact ⟨i + 1, by omega, by go_num, bl_n HW.out _⟩
   case measure => simp [intOf]; omega
  ·have hI : ¬ (i : Int) < (ks.length : Int) := by omega
   clear HK HK' a6 b6
   have a6 := (HA.out wr HW.out).c6
   go_wp2_with fail
   clear a6
   go_loopw [6] (fun tv wq => ∃ j : Nat, j ≤ l.length ∧ tv = .int .i64 j ∧ Hid (Below W.heap.size W wq)) (fun tv _ => l.length - (intOf tv).toNat)
   case atStart => exact ⟨0, Nat.zero_le _, rfl, HW⟩
   case round =>
    obtain ⟨j, hj, rfl, HZ⟩ := hrel
    clear HW
    have a5 := (HA.out wr HZ.out).c5
    by_cases hlt : j < l.length
    ·have hJ : (j : Int) < (l.length : Int) := by omega
     have b5 := (HB.out wr HZ.out).c5
     have hS : ∀ w', Below wr.heap.size wr w' → ∃ b off b' off', ao = some ⟨b, off, none⟩ ∧ ao' = some ⟨b', off', none⟩ := fun w' hb => by
      obtain ⟨b, off, h1, _⟩ := (HL.out w' (bl_t HZ.out hb)).resolve_left (fun e => by rw [e] at hlt; exact absurd hlt (by simp))
      obtain ⟨b', off', h2, _⟩ := (HL'.out w' (bl_t HZ.out hb)).resolve_left (fun e => by rw [e] at hlt; exact absurd hlt (by simp))
      exact ⟨b, off, b', off', h1, h2⟩
     obtain ⟨b, off, b', off', rfl, rfl⟩ := hS wr (Below.refl _ _)
     have HS : Hid (∀ w', Below wr.heap.size wr w' → w'.cell? ⟨w.heap.size, 5, none⟩ = some (.slice (some ⟨b, off, none⟩) l.length cap) ∧ w'.cell? ⟨w.heap.size + 1, 5, none⟩ = some (.slice (some ⟨b', off', none⟩) l.length cap') ∧ w'.cell? ⟨b, off + j * 7, none⟩ = some (G j 0) ∧ w'.cell? ⟨b, off + j * 7 + 1, none⟩ = some (G j 1) ∧ w'.cell? ⟨b, off + j * 7 + 2, none⟩ = some (G j 2) ∧ w'.cell? ⟨b, off + j * 7 + 3, none⟩ = some (G j 3) ∧ w'.cell? ⟨b, off + j * 7 + 4, none⟩ = some (G j 4) ∧ w'.cell? ⟨b, off + j * 7 + 5, none⟩ = some (G j 5) ∧ w'.cell? ⟨b, off + j * 7 + 6, none⟩ = some (G j 6) ∧ w'.cell? ⟨b', off' + j * 7, none⟩ = some (G' j 0) ∧ w'.cell? ⟨b', off' + j * 7 + 1, none⟩ = some (G' j 1) ∧ w'.cell? ⟨b', off' + j * 7 + 2, none⟩ = some (G' j 2) ∧ w'.cell? ⟨b', off' + j * 7 + 3, none⟩ = some (G' j 3) ∧ w'.cell? ⟨b', off' + j * 7 + 4, none⟩ = some (G' j 4) ∧ w'.cell? ⟨b', off' + j * 7 + 5, none⟩ = some (G' j 5) ∧ w'.cell? ⟨b', off' + j * 7 + 6, none⟩ = some (G' j 6)) := fun w' hb => by
      have hb2 := bl_t HZ.out hb
      obtain ⟨c, o, h1, h3⟩ := (HL.out w' hb2).resolve_left (fun e => by rw [e] at hlt; exact absurd hlt (by simp))
      obtain ⟨c', o', h2, h4⟩ := (HL'.out w' hb2).resolve_left (fun e => by rw [e] at hlt; exact absurd hlt (by simp))
      injection h1 with h1
      injection h1 with h1a h1b _
      subst h1a h1b
      injection h2 with h2
      injection h2 with h2a h2b _
      subst h2a h2b
      exact ⟨(HA.out w' hb2).c5, (HB.out w' hb2).c5, h3 j hlt 0 (by omega), h3 j hlt 1 (by omega), h3 j hlt 2 (by omega), h3 j hlt 3 (by omega), h3 j hlt 4 (by omega), h3 j hlt 5 (by omega), h3 j hlt 6 (by omega), h4 j hlt 0 (by omega), h4 j hlt 1 (by omega), h4 j hlt 2 (by omega), h4 j hlt 3 (by omega), h4 j hlt 4 (by omega), h4 j hlt 5 (by omega), h4 j hlt 6 (by omega)⟩
     have HC : Hid (∀ w', Below wr.heap.size wr w' → Calls Tryz.prog 18 #[.agg #[G j 0, G j 1, G j 2, G j 3, G j 4, G j 5, G j 6], .agg #[G' j 0, G' j 1, G' j 2, G' j 3, G' j 4, G' j 5, G' j 6]] w' fun r w2 => r = .returned (.bool true) ∧ Below w'.heap.size w' w2) := fun w' hb => HI.out w' j hlt (bl_t HZ.out hb)
     clear hS HA HB HL HL' HI HX b5
     go_wp2_with fail
     go_region_held3 (fun w' => w'.cell? ⟨w.heap.size, 5, none⟩ = some (.slice (some ⟨b, off, none⟩) l.length cap) ∧ w'.cell? ⟨w.heap.size + 1, 5, none⟩ = some (.slice (some ⟨b', off', none⟩) l.length cap') ∧ w'.cell? ⟨b, off + j * 7, none⟩ = some (G j 0) ∧ w'.cell? ⟨b, off + j * 7 + 1, none⟩ = some (G j 1) ∧ w'.cell? ⟨b, off + j * 7 + 2, none⟩ = some (G j 2) ∧ w'.cell? ⟨b, off + j * 7 + 3, none⟩ = some (G j 3) ∧ w'.cell? ⟨b, off + j * 7 + 4, none⟩ = some (G j 4) ∧ w'.cell? ⟨b, off + j * 7 + 5, none⟩ = some (G j 5) ∧ w'.cell? ⟨b, off + j * 7 + 6, none⟩ = some (G j 6) ∧ w'.cell? ⟨b', off' + j * 7, none⟩ = some (G' j 0) ∧ w'.cell? ⟨b', off' + j * 7 + 1, none⟩ = some (G' j 1) ∧ w'.cell? ⟨b', off' + j * 7 + 2, none⟩ = some (G' j 2) ∧ w'.cell? ⟨b', off' + j * 7 + 3, none⟩ = some (G' j 3) ∧ w'.cell? ⟨b', off' + j * 7 + 4, none⟩ = some (G' j 4) ∧ w'.cell? ⟨b', off' + j * 7 + 5, none⟩ = some (G' j 5) ∧ w'.cell? ⟨b', off' + j * 7 + 6, none⟩ = some (G' j 6)) (first | (refine HS.out _ ?_; with_reducible repeat (first | exact Below.refl _ _ | refine bl_t ?_ hb3 | refine bl_d ?_)) | fail) (first | (go_at_call 18; refine (HC.out _ ?_).mono ?_; (with_reducible repeat (first | exact Below.refl _ _ | refine bl_d ?_)); rintro r w3 ⟨rfl, hb3⟩) | fail)
     all_goals
      have hnx := bl_t HZ.out (show Below wr.heap.size wr w3 from bl_t (by with_reducible repeat (first | exact Below.refl _ _ | refine bl_d ?_)) hb3)
      have HNX : Hid (Below W.heap.size W w3) := hnx
      clear hnx HS HC
      go_wp2
      go_roundw
      case rel => exact ⟨j + 1, by omega, by go_num, HNX⟩
      case measure => simp [intOf]; omega
    ·have hJ : ¬ (j : Int) < (l.length : Int) := by omega
     have hfin := HX.out wr HZ.out
     clear HA HB HL HL' HI HX
     go_wp2
     go_ret
     exact ⟨rfl, hfin⟩
end Go.Proofs.YtjdboekanmfgpaaGreatDoor
