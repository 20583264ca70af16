/-
  Small laws: what stands behind a call, a text of bytes, the library's table of powers of ten; a text that is built piece by piece in a strings.Builder of the call's own. Conditions: at most 2^47 bytes.
  What the small tests of package pointer answer, and the means to speak of a text's bytes. No condition.
-/
import Derived.Test.YtkbkedknoahhgaaDoorJoined4
import Derived.Test.YtkbkedknoahhgaaDoorJoined5
import Derived.Test.YtkbkedknoahhgaaDoorJoined6
import Derived.Lib.ItoaMem
import Derived.Lib.Bytealg
namespace Go.Proofs.YtkbkedknoahhgaaDoor
open Go.RowKit Go.Sort

/-- A text of bytes. -/
def bs (l : List UInt8) : ByteArray := ⟨l.toArray⟩
theorem bs_self (s : ByteArray) : bs s.data.toList = s := rfl
theorem bs_list (l : List UInt8) : (bs l).data.toList = l := rfl
theorem bs_size (l : List UInt8) : (bs l).size = l.length := by simp [bs, ByteArray.size]
theorem bl_a {a w : World} (h : Below a.heap.size a w) (o : Obj) : Below a.heap.size a (w.alloc o) := h.alloc h.size o
theorem bl_d {B : Nat} {a w : World} (h : Below B a w) : Below B a w.drew := ⟨h.os, h.tape, h.output, h.size, h.block⟩
theorem bl_n {B : Nat} {a w : World} (h : Below B a w) (n : Nat) : Below B a (w.drewN n) := ⟨h.os, h.tape, h.output, h.size, h.block⟩
theorem bl_s {a w : World} (h : Below a.heap.size a w) {b o : Nat} (hb : a.heap.size ≤ b) (v : Value) : Below a.heap.size a (w.setCell ⟨b, o, none⟩ v) := h.setCell hb v
theorem bl_t {a w w2 : World} (h : Below a.heap.size a w) (h2 : Below w.heap.size w w2) : Below a.heap.size a w2 := h.trans (h2.mono h.size)
theorem tab_below {w w' : World} (h : Lib.TabIs Tryd.prog w "internal/strconv.uint64pow10" .u64 Lib.pow10Tab) (hb : Below w.heap.size w w') : Lib.TabIs Tryd.prog w' "internal/strconv.uint64pow10" .u64 Lib.pow10Tab := by
  have hg : Tryd.prog.globalNamed "internal/strconv.uint64pow10" = some 2 := by kernel_rfl
  have hlt : 2 < w.heap.size := World.block_lt_of_cell? w _ (h.cell hg 0 (by decide))
  unfold Lib.TabIs World.var? at h ⊢
  simp only [hg, Option.bind_some] at h ⊢
  rw [hb.block _ hlt]
  exact h
theorem Tab.below {w w' : World} (h : Tab w) (hb : Below w.heap.size w w') : Tab w' := by
  have key : ∀ o v, w.cell? ⟨1, o, none⟩ = some v → w'.cell? ⟨1, o, none⟩ = some v := fun o v hv => by
    rw [hb.cell (World.block_lt_of_cell? w _ hv)]; exact hv
  exact ⟨key _ _ h.t0, key _ _ h.t1, key _ _ h.t2, key _ _ h.t3⟩

/-- A builder in block B, all of its own from there on, that holds the bytes l. -/
def BB (B : Nat) (l : List UInt8) (w : World) : Prop := Lib.IsBuilderF 76 5 B B (Lib.byteCells l) w ∧ B ≤ w.heap.size

theorem isb_more {T e : TypeId} {B b : Nat} {xs : List Value} {w w' : World} (h : Lib.IsBuilderF T e B b xs w) (hk : ∀ k, k < w.heap.size → w'.heap[k]? = w.heap[k]?) : Lib.IsBuilderF T e B b xs w' := by
  have key : ∀ p, Lib.BuilderAtF T e B b p xs w → Lib.BuilderAtF T e B b p xs w' := by
    rintro p ⟨hB, v, hb, hown, hne⟩
    refine ⟨hB, v, by rw [hk b (Array.getElem?_eq_some_iff.1 hb).1]; exact hb, ⟨hown.1, ?_⟩, hne⟩
    rcases hown.2 with hn | ⟨g, cap, cur, fz, rfl, hg, hgg, rest⟩
    · exact .inl hn
    · exact .inr ⟨g, cap, cur, fz, rfl, hg, by rw [hk g (Array.getElem?_eq_some_iff.1 hgg).1]; exact hgg, rest⟩
  rcases h with h | h
  · exact .inl (key _ h)
  · exact .inr (key _ h)

theorem BB.below {B : Nat} {l : List UInt8} {w w' : World} (h : BB B l w) (hb : Below w.heap.size w w') : BB B l w' := ⟨isb_more h.1 hb.block, Nat.le_trans h.2 hb.size⟩

theorem bb_fresh (w : World) : BB w.heap.size [] (w.alloc (.cells #[.pointer none, .slice none 0 0] 76)) := ⟨Lib.IsBuilderF.of (Lib.fresh_isBuilder _ _ w), by simp⟩

theorem byteCells_append (a b : List UInt8) : Lib.byteCells (a ++ b) = Lib.byteCells a ++ Lib.byteCells b := by simp [Lib.byteCells]

theorem byteCells_len (a : List UInt8) : (Lib.byteCells a).length = a.length := by simp [Lib.byteCells]

theorem wbyte (B : Nat) (l : List UInt8) (c : UInt8) (x : Int) (w : World) (hx : x = (c.toNat : Int)) (h : BB B l w) (hl : l.length + 1 ≤ 140737488355328) :
    Calls Tryd.prog 52 #[.pointer (some ⟨B, 0, none⟩), .int .u8 x] w fun e w' => e = .returned .nilIface ∧ BB B (l ++ [c]) w' ∧ Below B w w' := by
  subst hx
  refine (Any.Builder_WriteByte_k lays167 extra167 B B (Lib.byteCells l) (c.toNat : Int) w h.1 (by rw [byteCells_len]; exact hl) h.2).mono ?_
  rintro e w' ⟨rfl, h1, h2, _⟩
  exact ⟨rfl, ⟨by rw [byteCells_append]; exact .inr h1, Nat.le_trans h.2 h2.size⟩, h2⟩

theorem wstr (B : Nat) (l : List UInt8) (s : ByteArray) (w : World) (h : BB B l w) (hl : l.length + s.size ≤ 140737488355328) :
    Calls Tryd.prog 50 #[.pointer (some ⟨B, 0, none⟩), .string s] w fun e w' => e = .returned (.tuple #[.int .i64 s.size, .nilIface]) ∧ BB B (l ++ s.data.toList) w' ∧ Below B w w' := by
  refine (Any.Builder_WriteString_k lays166 extra166 B B (Lib.byteCells l) s w h.1 (by rw [byteCells_len]; exact hl) h.2).mono ?_
  rintro e w' ⟨rfl, h1, h2, _⟩
  exact ⟨rfl, ⟨by rw [byteCells_append]; exact .inr h1, Nat.le_trans h.2 h2.size⟩, h2⟩

theorem bstr (B : Nat) (l : List UInt8) (w : World) (h : BB B l w) :
    Calls Tryd.prog 51 #[.pointer (some ⟨B, 0, none⟩)] w fun e w' => e = .returned (.string (bs l)) ∧ Below B w w' := by
  refine (Tryd.Builder_String_any_k B B l w h.1 h.2).mono ?_
  rintro e w' ⟨rfl, _, h2, _⟩
  exact ⟨rfl, h2⟩

theorem below_grow (w : World) (q : Nat) (os : Array Obj) : Below w.heap.size w (grow (w.drewN q) os) :=
  ⟨rfl, rfl, rfl, by simp [grow], fun i hi => by show (w.heap ++ os)[i]? = w.heap[i]?; rw [Array.getElem?_append_left hi]⟩

theorem itoa_any (n : Int) (w : World) (h0 : -9223372036854775808 ≤ n) (h1 : n ≤ 9223372036854775807) (htab : Lib.TabIs Tryd.prog w "internal/strconv.uint64pow10" .u64 Lib.pow10Tab) :
    Calls Tryd.prog 22 #[.int .i64 n] w fun e w' => e = .returned (.string (bs (Lib.itoa n))) ∧ Below w.heap.size w w' := by
  refine (Tryd.strconv_Itoa n h0 h1 w htab).mono ?_
  rintro e w' ⟨rfl, k, os, rfl⟩
  exact ⟨rfl, below_grow w k os⟩

end Go.Proofs.YtkbkedknoahhgaaDoor

namespace Go.Proofs.YtkbkedknoahhgaaDoor
open Go.RowKit
attribute [local go_sem] setCell_drewN alloc_drewN

theorem len_of (s : ByteArray) : s.data.toList.length = s.size := Array.length_toList
theorem bx_at (s : ByteArray) (i : Nat) (h : i < s.size) : ((s[i]'h).toNat : Int) = bx s.data.toList i := by
  unfold bx
  rw [Array.getElem?_toList, Array.getElem?_eq_getElem (show i < s.data.size from h)]
  rfl
theorem bx_get (l : List UInt8) (i : Nat) (h : i < l.length) : bx l i = ((l[i]'h).toNat : Int) := by
  unfold bx; rw [List.getElem?_eq_getElem h]; rfl
theorem r_bool {a b : Bool} (h : a = b) : Ending.returned (.bool a) = .returned (.bool b) := by rw [h]
theorem r_str {a b : List UInt8} (h : a = b) : Ending.returned (.string (bs a)) = .returned (.string (bs b)) := by rw [h]
theorem piece (s : ByteArray) (a b : Nat) : (s.extract a b).data.toList = (s.data.toList.drop a).take (b - a) := by
  rw [ByteArray.data_extract, Array.toList_extract, List.extract_eq_take_drop]
theorem piece_bs (s : ByteArray) (a b : Nat) : s.extract a b = bs ((s.data.toList.drop a).take (b - a)) := by
  rw [← piece]; exact (bs_self _).symm
theorem pass_in {l : List UInt8} {p : Int → Bool} (n : Nat) : ∀ i, l.length - i ≤ n → ∀ j, i ≤ j → j < pass l p i → p (bx l j) = true := by
  induction n with
  | zero =>
    intro i hn j hj hk
    rw [pass_stop (by simp [hasAt, show ¬ i < l.length by omega])] at hk
    omega
  | succ n ih =>
    intro i hn j hj hk
    cases hh : hasAt l i p
    · rw [pass_stop hh] at hk; omega
    · rw [pass_go hh] at hk
      have hlt := hasAt_lt hh
      by_cases e : j = i
      · subst e; simpa [hasAt, hlt] using hh
      · exact ih (i + 1) (by omega) j (by omega) hk
theorem pass_end {l : List UInt8} {p : Int → Bool} (n : Nat) : ∀ i, l.length - i ≤ n → pass l p i < l.length → p (bx l (pass l p i)) = false := by
  induction n with
  | zero =>
    intro i hn hk
    rw [pass_stop (by simp [hasAt, show ¬ i < l.length by omega])] at hk
    omega
  | succ n ih =>
    intro i hn hk
    cases hh : hasAt l i p
    · rw [pass_stop hh] at hk ⊢
      simpa [hasAt, hk] using hh
    · rw [pass_go hh] at hk ⊢
      exact ih (i + 1) (by have := hasAt_lt hh; omega) hk

/-- From one byte to another. -/
def wi (c a b : Int) : Bool := decide (a ≤ c) && decide (c ≤ b)

set_option maxHeartbeats 400000 in
theorem within_any (c a b : Int) (w : World) :
    Calls Tryd.prog 64 #[.int .u8 c, .int .u8 a, .int .u8 b] w fun e w' => e = .returned (.bool (wi c a b)) ∧ w' = w := by
  by_cases h1 : a ≤ c
  · by_cases h2 : c ≤ b
    · go_enter Tryd.func64, Tryd.ntmps64
      go_wp2
      go_ret
      exact ⟨by simp [wi, h1, h2], rfl⟩
    · go_enter Tryd.func64, Tryd.ntmps64
      go_wp2
      go_ret
      exact ⟨by simp [wi, h1, h2], rfl⟩
  · go_enter Tryd.func64, Tryd.ntmps64
    go_wp2
    go_ret
    exact ⟨by have : decide (a ≤ c) = false := by simpa using h1
              simp [wi, this], rfl⟩

set_option maxHeartbeats 400000 in
theorem isDigit_any (c : Int) (w : World) :
    Calls Tryd.prog 55 #[.int .u8 c] w fun e w' => e = .returned (.bool (wi c 48 57)) ∧ w' = w := by
  have h := within_any c 48 57 w
  go_enter Tryd.func55, Tryd.ntmps55
  go_wp2_with (go_at_call 64; refine h.mono ?_; rintro e w' ⟨rfl, rfl⟩)
  go_ret
  exact ⟨rfl, rfl⟩

/-- What does not stand for itself in a part. -/
def ndT (c : Int) : Bool := c == 126 || c == 47
set_option maxHeartbeats 400000 in
theorem needsTilde_any (c : Int) (w : World) :
    Calls Tryd.prog 59 #[.int .u8 c] w fun e w' => e = .returned (.bool (ndT c)) ∧ w' = w := by
  cases h1 : (c == 126)
  · go_enter Tryd.func59, Tryd.ntmps59
    go_wp2
    go_ret
    exact ⟨by simp [ndT, h1], rfl⟩
  · go_enter Tryd.func59, Tryd.ntmps59
    go_wp2
    go_ret
    exact ⟨by simp [ndT, h1], rfl⟩

set_option maxHeartbeats 400000 in
theorem is1_any (c m : Int) (b : Nat) (w : World) (hb : w.cell? ⟨b, 0, none⟩ = some (.int .u8 m)) :
    Calls Tryd.prog 49 #[.int .u8 c, .pointer (some ⟨b, 0, none⟩)] w fun e w' => e = .returned (.bool (c == m)) ∧ w' = w := by
  go_enter Tryd.func49, Tryd.ntmps49
  go_wp2
  go_ret
  exact ⟨rfl, rfl⟩

set_option maxHeartbeats 400000 in
theorem is_any (m : Int) (w : World) :
    Calls Tryd.prog 30 #[.int .u8 m] w fun e w' => e = .returned (.func (.func 49) #[] #[.pointer (some ⟨w.heap.size, 0, none⟩)]) ∧ w' = w.alloc (.cells #[.int .u8 m] 5) := by
  have hmf : ∀ (fn : Fn) (first cap : Array Value) (w : World), (Instr.makeFunc fn first cap).run Tryd.prog w = .ok (.func fn first cap) w := fun _ _ _ _ => rfl
  go_enter Tryd.func30, Tryd.ntmps30
  go_wp2
  go_ret
  exact ⟨rfl, rfl⟩
end Go.Proofs.YtkbkedknoahhgaaDoor
