/-
  What dec.Check and ref3.Check answer: whether a number may be. No condition.
  What dec.splitDigits, dec.splitWhole and dec.cutAny answer: what stands ahead of a text. No condition but that the bytes to look for lie in memory.
-/
import Derived.Test.YtlahlnocjfphjaaGreatDoorJoined3
import Derived.Laws.StructEq
import Derived.Test.YtlahlnocjfphjaaGreatDoorJoined21
namespace Go.Proofs.YtlahlnocjfphjaaGreatDoor
open Go.RowKit

/-- Are two numbers the same. -/
def eqD (a : Bool) (s : ByteArray) (e : Int) (b : Bool) (t : ByteArray) (f : Int) : Bool := decide (a = b ∧ s = t ∧ e = f)
theorem eq_bytes (s t : ByteArray) : (s.toList == t.toList) = decide (s = t) := by
  rw [← beq_toListBytes]
  obtain ⟨⟨x⟩⟩ := s
  obtain ⟨⟨y⟩⟩ := t
  show ((⟨x⟩ : Array UInt8) == ⟨y⟩) = _
  by_cases h : x = y
  · subst h; simp
  · rw [decide_eq_false (fun e => h (by simpa using e))]; simpa using h
theorem eqIn_dec (a : Bool) (s : ByteArray) (e : Int) (b : Bool) (t : ByteArray) (f : Int) (w : World) :
    (Op.equalIn 10000 27 (.agg #[.bool a, .string s, .int .i64 e]) (.agg #[.bool b, .string t, .int .i64 f])).run Tryz.prog w = .ok (eqD a s e b t f) w := by
  have u3 := Tryz.underlying3
  have u4 := Tryz.underlying4
  have u9 := Tryz.underlying9
  have a3 := Tryz.isAgg3
  have a4 := Tryz.isAgg4
  have a9 := Tryz.isAgg9
  have z3 := Tryz.sizeOf3
  have z4 := Tryz.sizeOf4
  have z9 := Tryz.sizeOf9
  have hS : Tryz.prog.underlying 27 = some (.struct (Tryz.prog.fieldsOf 27)) := by kernel_rfl
  have hp : Tryz.prog.stoodInHeld 27 = false := by kernel_rfl
  rw [show (10000 : Nat) = 9999 + 1 from rfl, run_equalIn_agg w 9999 27 _ _ hS hp]
  simp only [Program.fieldsOf, Tryz.underlying27]
  go_simp
  have hl : (s.toList = t.toList) ↔ s = t := by
    have := eq_bytes s t
    rw [Bool.eq_iff_iff] at this
    simpa using this
  unfold eqD
  by_cases h1 : a = b <;> by_cases h2 : s = t <;> by_cases h3 : e = f <;> simp [h1, h2, h3, hl]
theorem eql_dec (a : Bool) (s : ByteArray) (e : Int) (b : Bool) (t : ByteArray) (f : Int) (w : World) :
    (binOp .eql 27 (.agg #[.bool a, .string s, .int .i64 e]) (.agg #[.bool b, .string t, .int .i64 f])).run Tryz.prog w = .ok (.bool (eqD a s e b t f)) w := by
  rw [run_eql_struct, eqIn_dec]; rfl
theorem neq_dec (a : Bool) (s : ByteArray) (e : Int) (b : Bool) (t : ByteArray) (f : Int) (w : World) :
    (binOp .neq 27 (.agg #[.bool a, .string s, .int .i64 e]) (.agg #[.bool b, .string t, .int .i64 f])).run Tryz.prog w = .ok (.bool (!eqD a s e b t f)) w := by
  rw [run_neq_struct, eqIn_dec]; rfl
def errB (b : Bool) : Int := if b = true then 0 else 2
theorem bl_a {a w : World} (h : Below a.heap.size a w) (o : Obj) : Below a.heap.size a (w.alloc o) := h.alloc h.size o
theorem bl_d {B : Nat} {a w : World} (h : Below B a w) : Below B a w.drew := ⟨h.os, h.tape, h.output, h.size, h.block⟩
theorem bl_n {B : Nat} {a w : World} (h : Below B a w) (n : Nat) : Below B a (w.drewN n) := ⟨h.os, h.tape, h.output, h.size, h.block⟩
theorem bl_s {a w : World} (h : Below a.heap.size a w) {b o : Nat} (hb : a.heap.size ≤ b) (v : Value) : Below a.heap.size a (w.setCell ⟨b, o, none⟩ v) := h.setCell hb v
theorem bl_t {a w w2 : World} (h : Below a.heap.size a w) (h2 : Below w.heap.size w w2) : Below a.heap.size a w2 := h.trans (h2.mono h.size)
theorem good_zero {n : Bool} {s : ByteArray} {e : Int} (h : eqD n s e false ⟨#[]⟩ 0 = true) : goodB n s e = true := by
  obtain ⟨rfl, rfl, rfl⟩ := of_decide_eq_true h
  rfl
theorem good_not {n : Bool} {s : ByteArray} {e : Int} (h : eqD n s e false ⟨#[]⟩ 0 = false) : goodB n s e = (digB s && decide (-1000000 ≤ e ∧ e ≤ 1000000)) := by
  have h := of_decide_eq_false h
  unfold goodB digB
  by_cases d : DigOK s.data.toList
  · rw [decide_eq_true d, Bool.true_and]
    by_cases c : -1000000 ≤ e ∧ e ≤ 1000000
    · rw [decide_eq_true c, decide_eq_true]; exact .inr ⟨d, c⟩
    · rw [decide_eq_false c, decide_eq_false]
      rintro (g | g)
      · exact d.1 g.1
      · exact c g.2
  · rw [decide_eq_false d, Bool.false_and, decide_eq_false]
    rintro (g | g)
    · refine h ⟨g.2.1, ?_, g.2.2⟩
      have g1 : s.data.toList = [] := g.1
      obtain ⟨⟨l⟩⟩ := s
      simp only at g1
      rw [g1]
    · exact d g.1

end Go.Proofs.YtlahlnocjfphjaaGreatDoor

namespace Go.Proofs.YtlahlnocjfphjaaGreatDoor
open Go.RowKit

theorem setCell_drewN (w : World) (n : Nat) (a : Addr) (v : Value) : (w.drewN n).setCell a v = (w.setCell a v).drewN n := rfl
theorem alloc_drewN (w : World) (n : Nat) (o : Obj) : (w.drewN n).alloc o = (w.alloc o).drewN n := rfl
/-- A text of bytes. -/
def bs (l : List UInt8) : ByteArray := ⟨l.toArray⟩
theorem bs_self (s : ByteArray) : bs s.data.toList = s := rfl
theorem bs_list (l : List UInt8) : (bs l).data.toList = l := rfl
theorem bs_size (l : List UInt8) : (bs l).size = l.length := by rw [← len_of]; rfl
theorem extract_to (s : ByteArray) (k : Nat) : s.extract 0 k = bs (s.data.toList.take k) := Lib.extract_upto s k
theorem extract_from' (s : ByteArray) (k : Nat) : s.extract k s.size = bs (s.data.toList.drop k) := Lib.extract_from s k

theorem split_ret (s : ByteArray) (k : Nat) (h : Ahead s k) : Ending.returned (.tuple #[.string (s.extract 0 k), .string (s.extract k s.size), .bool (decide (0 < k))]) = .returned (.tuple #[.string (bs (tw s.data.toList)), .string (bs (dw s.data.toList)), .bool (decide (tw s.data.toList ≠ []))]) := by
  rw [extract_to, extract_from', h.2.1, h.2.2]
  have : (0 < k) ↔ (s.data.toList.take k ≠ []) := by
    have hl : (s.data.toList.take k).length = k := by rw [List.length_take, len_of]; have := h.1; omega
    rw [← hl, List.length_pos_iff]; simp [hl]
  rw [decide_eq_decide.2 this]

set_option maxHeartbeats 800000 in
theorem splitDigits_any (s : ByteArray) (w : World) (hs : s.size ≤ maxLen) :
    Calls Tryz.prog 142 #[.string s] w fun e w' => e = .returned (.tuple #[.string (bs (tw s.data.toList)), .string (bs (dw s.data.toList)), .bool (decide (tw s.data.toList ≠ []))]) ∧ ∃ q, w' = w.drewN q := by
  have ha := ahead_any s w hs
  unfold maxLen at hs
  go_enter Tryz.func142, Tryz.ntmps142
  go_wp2_with (go_at_call 151; refine ha.mono ?_; rintro e w' ⟨⟨k, rfl, hk⟩, rfl⟩)
  have hk1 := hk.1
  have HK : Hid (Ahead s k) := hk
  clear hk ha
  have hI : (k : Int) ≤ (s.size : Int) := by omega
  go_quiet (fail)
  go_wp2
  go_ret3
  exact ⟨split_ret s k HK.out, nq, rfl⟩

theorem hasPrefix_one (l : List UInt8) (c : UInt8) : Lib.hasPrefix l [c] = decide (l.head? = some c) := by
  cases l with
  | nil => rfl
  | cons d t =>
    by_cases h : c = d
    · subst h; simp [Lib.hasPrefix, List.isPrefixOf]
    · have h' : ¬ d = c := fun e => h e.symm
      simp [Lib.hasPrefix, List.isPrefixOf, h, h']
theorem cut_yes (s : ByteArray) (c : UInt8) (w : World) (h : s.data.toList.head? = some c) :
    Calls Tryz.prog 140 #[.string s, .string ⟨#[c]⟩] w fun e w' => e = .returned (.tuple #[.string (bs s.data.toList.tail), .bool true]) ∧ w = w' := by
  refine (Tryz.strings_CutPrefix s ⟨#[c]⟩ w).mono ?_
  rintro e w' ⟨rfl, rfl⟩
  have hp : Lib.hasPrefix s.data.toList [c] = true := by rw [hasPrefix_one]; exact decide_eq_true h
  have e1 : Lib.trimPrefix s.data.toList [c] = s.data.toList.tail := by rw [Lib.trimPrefix, if_pos hp]; simp
  refine ⟨?_, rfl⟩
  show Ending.returned (.tuple #[.string ⟨(Lib.trimPrefix s.data.toList [c]).toArray⟩, .bool (Lib.hasPrefix s.data.toList [c])]) = _
  rw [e1, hp]; rfl
theorem cut_no (s : ByteArray) (c : UInt8) (w : World) (h : s.data.toList.head? ≠ some c) :
    Calls Tryz.prog 140 #[.string s, .string ⟨#[c]⟩] w fun e w' => e = .returned (.tuple #[.string s, .bool false]) ∧ w = w' := by
  refine (Tryz.strings_CutPrefix s ⟨#[c]⟩ w).mono ?_
  rintro e w' ⟨rfl, rfl⟩
  have hp : Lib.hasPrefix s.data.toList [c] = false := by rw [hasPrefix_one]; exact decide_eq_false h
  have e1 : Lib.trimPrefix s.data.toList [c] = s.data.toList := by rw [Lib.trimPrefix, if_neg (by rw [hp]; decide)]
  refine ⟨?_, rfl⟩
  show Ending.returned (.tuple #[.string ⟨(Lib.trimPrefix s.data.toList [c]).toArray⟩, .bool (Lib.hasPrefix s.data.toList [c])]) = _
  rw [e1, hp]
theorem has_one (s : ByteArray) (c : UInt8) (w : World) :
    Calls Tryz.prog 144 #[.string s, .string ⟨#[c]⟩] w fun e w' => e = .returned (.bool (decide (s.data.toList.head? = some c))) ∧ w = w' := by
  refine (Tryz.strings_HasPrefix s ⟨#[c]⟩ w).mono ?_
  rintro e w' ⟨rfl, rfl⟩
  exact ⟨by rw [← hasPrefix_one], rfl⟩

set_option maxHeartbeats 400000 in
theorem splitWhole_nought (s : ByteArray) (w : World) (h : s.data.toList.head? = some 48) :
    Calls Tryz.prog 141 #[.string s] w fun e w' => e = .returned (.tuple #[.string (bs [48]), .string (bs s.data.toList.tail), .bool true]) ∧ ∃ q, w' = w.drewN q := by
  have hc := fun w => cut_yes s 48 w h
  clear h
  go_enter Tryz.func141, Tryz.ntmps141
  go_wp2_with (go_at_call 140; refine (hc _).mono ?_; rintro e w' ⟨rfl, rfl⟩)
  go_ret3
  exact ⟨rfl, 0, rfl⟩

set_option maxHeartbeats 400000 in
theorem splitWhole_digits (s : ByteArray) (w : World) (hs : s.size ≤ maxLen) (h : s.data.toList.head? ≠ some 48) :
    Calls Tryz.prog 141 #[.string s] w fun e w' => e = .returned (.tuple #[.string (bs (tw s.data.toList)), .string (bs (dw s.data.toList)), .bool (decide (tw s.data.toList ≠ []))]) ∧ ∃ q, w' = w.drewN q := by
  have hc := fun w => cut_no s 48 w h
  have hd := fun w => splitDigits_any s w hs
  clear h hs
  generalize decide (tw s.data.toList ≠ []) = ok at *
  go_enter Tryz.func141, Tryz.ntmps141
  go_wp2_with (first | (go_at_call 140; refine (hc _).mono ?_; rintro e w' ⟨rfl, rfl⟩) | (go_at_call 142; refine (hd _).mono ?_; rintro e w' ⟨rfl, q, rfl⟩))
  go_ret3
  exact ⟨rfl, q, rfl⟩

theorem size_zero {s : ByteArray} (h : s.size = 0) : s = ⟨#[]⟩ := by
  have h0 := (nil_size s).2 h
  obtain ⟨⟨l⟩⟩ := s
  simp only at h0
  rw [h0]
theorem head_byte (s : ByteArray) (h : 0 < s.size) : ∃ b : UInt8, s.data.toList.head? = some b ∧ (b.toNat : Int) = cx s 0 := by
  obtain ⟨b, hb, hc⟩ := cx_get s 0 h
  exact ⟨b, by rw [List.head?_eq_getElem?, hb], hc⟩

theorem toList_ne {s : ByteArray} (h : 0 < s.size) : s.toList.isEmpty = false := by
  rw [ByteArray.toList_eq]
  cases hl : s.data.toList with
  | nil => have := (nil_size s).1 hl; omega
  | cons c t => rfl
theorem toNat_ne {a b : UInt8} (h : ¬ a = b) : ((a.toNat : Int) == (b.toNat : Int)) = false := beq_eq_false_iff_ne.2 (fun e => h (UInt8.toNat_inj.1 (by omega)))
theorem tup2 {a b : ByteArray} {o : Bool} (h : a = b) : Ending.returned (.tuple #[.string a, .bool o]) = .returned (.tuple #[.string b, .bool o]) := by rw [h]

set_option maxHeartbeats 400000 in
theorem cutAny_yes (s : ByteArray) (b : Nat) (x y : UInt8) (w : World) (c0 : w.cell? ⟨b, 0, none⟩ = some (.int .u8 x.toNat)) (c1 : w.cell? ⟨b, 1, none⟩ = some (.int .u8 y.toNat)) (h : s.data.toList.head? = some x ∨ s.data.toList.head? = some y) :
    Calls Tryz.prog 143 #[.string s, .slice (some ⟨b, 0, none⟩) 2 2] w fun e w' => e = .returned (.tuple #[.string (bs s.data.toList.tail), .bool true]) ∧ w = w' := by
  have h0 : 0 < s.size := by
    rcases Nat.eq_zero_or_pos s.size with z | z
    · rw [(nil_size s).2 z] at h; simp at h
    · exact z
  have hx := cx_at s 0 h0
  have he : Hid (s.extract 1 s.size = bs s.data.toList.tail) := by show _ = _; rw [extract_from', List.drop_one]
  obtain ⟨a, ha, hc⟩ := head_byte s h0
  have hI : (1 : Int) ≤ (s.size : Int) := by omega
  have hn := toList_ne h0
  rw [ha] at h
  rw [← hc] at hx
  by_cases e : a = x
  · subst e
    clear h ha hc
    go_enter Tryz.func143, Tryz.ntmps143
    go_wp2
    refine wp_loop_rounds 1 ?_
    rw [rounds_succ]
    go_wp2
    go_ret2
    exact ⟨tup2 he.out, rfl⟩
  · have e2 : a = y := by
      rcases h with h | h
      · exact absurd (Option.some.inj h) e
      · exact Option.some.inj h
    subst e2
    have en := toNat_ne e
    clear h ha hc e
    go_enter Tryz.func143, Tryz.ntmps143
    go_wp2
    refine wp_loop_rounds 2 ?_
    rw [rounds_succ]
    go_wp2
    rw [rounds_succ]
    go_wp2
    go_ret2
    exact ⟨tup2 he.out, rfl⟩

set_option maxHeartbeats 400000 in
theorem cutAny_no (s : ByteArray) (b : Nat) (x y : UInt8) (w : World) (c0 : w.cell? ⟨b, 0, none⟩ = some (.int .u8 x.toNat)) (c1 : w.cell? ⟨b, 1, none⟩ = some (.int .u8 y.toNat)) (h : ¬ (s.data.toList.head? = some x ∨ s.data.toList.head? = some y)) :
    Calls Tryz.prog 143 #[.string s, .slice (some ⟨b, 0, none⟩) 2 2] w fun e w' => e = .returned (.tuple #[.string s, .bool false]) ∧ w = w' := by
  by_cases z : s.size = 0
  · have hn : s.toList = [] := by rw [ByteArray.toList_eq]; exact (nil_size s).2 z
    clear h z
    go_enter Tryz.func143, Tryz.ntmps143
    go_wp2
    refine wp_loop_rounds 3 ?_
    rw [rounds_succ]
    go_wp2
    rw [rounds_succ]
    go_wp2
    rw [rounds_succ]
    go_wp2
    go_ret2
    exact ⟨rfl, rfl⟩
  · have h0 : 0 < s.size := by omega
    have hx := cx_at s 0 h0
    obtain ⟨a, ha, hc⟩ := head_byte s h0
    have hI : (0 : Int) < (s.size : Int) := by omega
    have hn := toList_ne h0
    rw [ha] at h
    rw [← hc] at hx
    have e1 := toNat_ne (a := a) (b := x) (fun e => h (.inl (by rw [e])))
    have e2 := toNat_ne (a := a) (b := y) (fun e => h (.inr (by rw [e])))
    clear h ha hc z
    go_enter Tryz.func143, Tryz.ntmps143
    go_wp2
    refine wp_loop_rounds 3 ?_
    rw [rounds_succ]
    go_wp2
    rw [rounds_succ]
    go_wp2
    rw [rounds_succ]
    go_wp2
    go_ret2
    exact ⟨rfl, rfl⟩
end Go.Proofs.YtlahlnocjfphjaaGreatDoor
