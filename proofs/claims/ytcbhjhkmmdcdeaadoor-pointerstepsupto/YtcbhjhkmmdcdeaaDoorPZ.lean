/-
  Small laws: what stands behind a call, a text of bytes, the library's table of powers of ten; a text that is built piece by piece in a strings.Builder of the call's own. Conditions: at most 2^47 bytes.
-/
import Derived.Test.YtcbhjhkmmdcdeaaDoorV1
import Derived.Test.YtcbhjhkmmdcdeaaDoorB0
import Derived.Test.YtcbhjhkmmdcdeaaDoorShelf
import Derived.Lib.ItoaMem
namespace Go.Proofs.YtcbhjhkmmdcdeaaDoor
open Go.RowKit Go.Sort

/-- A text of bytes. -/
def bs (l : List UInt8) : ByteArray := ⟨l.toArray⟩
theorem bs_self (s : ByteArray) : bs s.data.toList = s := rfl
theorem bs_list (l : List UInt8) : (bs l).data.toList = l := rfl
theorem bs_size (l : List UInt8) : (bs l).size = l.length := by simp [bs, ByteArray.size]
theorem bl_a {a w : World} (h : Below a.heap.size a w) (o : Obj) : Below a.heap.size a (w.alloc o) := h.alloc h.size o
theorem bl_d {B : Nat} {a w : World} (h : Below B a w) : Below B a w.drew := ⟨h.os, h.tape, h.output, h.size, h.block⟩
theorem bl_n {B : Nat} {a w : World} (h : Below B a w) (n : Nat) : Below B a (w.drewN n) := ⟨h.os, h.tape, h.output, h.size, h.block⟩
theorem bl_s {a w : World} (h : Below a.heap.size a w) {b o : Nat} (hb : a.heap.size ≤ b) (v : Value) : Below a.heap.size a (w.setCell ⟨b, o, none⟩ v) := h.setCell hb v
theorem bl_t {a w w2 : World} (h : Below a.heap.size a w) (h2 : Below w.heap.size w w2) : Below a.heap.size a w2 := h.trans (h2.mono h.size)
theorem tab_below {w w' : World} (h : Lib.TabIs Tryd.prog w "internal/strconv.uint64pow10" .u64 Lib.pow10Tab) (hb : Below w.heap.size w w') : Lib.TabIs Tryd.prog w' "internal/strconv.uint64pow10" .u64 Lib.pow10Tab := by
  have hg : Tryd.prog.globalNamed "internal/strconv.uint64pow10" = some 2 := by kernel_rfl
  have hlt : 2 < w.heap.size := World.block_lt_of_cell? w _ (h.cell hg 0 (by decide))
  unfold Lib.TabIs World.var? at h ⊢
  simp only [hg, Option.bind_some] at h ⊢
  rw [hb.block _ hlt]
  exact h
theorem Tab.below {w w' : World} (h : Tab w) (hb : Below w.heap.size w w') : Tab w' := by
  have key : ∀ o v, w.cell? ⟨1, o, none⟩ = some v → w'.cell? ⟨1, o, none⟩ = some v := fun o v hv => by
    rw [hb.cell (World.block_lt_of_cell? w _ hv)]; exact hv
  exact ⟨key _ _ h.t0, key _ _ h.t1, key _ _ h.t2, key _ _ h.t3⟩

/-- A builder in block B, all of its own from there on, that holds the bytes l. -/
def BB (B : Nat) (l : List UInt8) (w : World) : Prop := Lib.IsBuilderF 60 5 B B (Lib.byteCells l) w ∧ B ≤ w.heap.size

theorem isb_more {T e : TypeId} {B b : Nat} {xs : List Value} {w w' : World} (h : Lib.IsBuilderF T e B b xs w) (hk : ∀ k, k < w.heap.size → w'.heap[k]? = w.heap[k]?) : Lib.IsBuilderF T e B b xs w' := by
  have key : ∀ p, Lib.BuilderAtF T e B b p xs w → Lib.BuilderAtF T e B b p xs w' := by
    rintro p ⟨hB, v, hb, hown, hne⟩
    refine ⟨hB, v, by rw [hk b (Array.getElem?_eq_some_iff.1 hb).1]; exact hb, ⟨hown.1, ?_⟩, hne⟩
    rcases hown.2 with hn | ⟨g, cap, cur, fz, rfl, hg, hgg, rest⟩
    · exact .inl hn
    · exact .inr ⟨g, cap, cur, fz, rfl, hg, by rw [hk g (Array.getElem?_eq_some_iff.1 hgg).1]; exact hgg, rest⟩
  rcases h with h | h
  · exact .inl (key _ h)
  · exact .inr (key _ h)

theorem BB.below {B : Nat} {l : List UInt8} {w w' : World} (h : BB B l w) (hb : Below w.heap.size w w') : BB B l w' := ⟨isb_more h.1 hb.block, Nat.le_trans h.2 hb.size⟩

theorem bb_fresh (w : World) : BB w.heap.size [] (w.alloc (.cells #[.pointer none, .slice none 0 0] 60)) := ⟨Lib.IsBuilderF.of (Lib.fresh_isBuilder _ _ w), by simp⟩

theorem byteCells_append (a b : List UInt8) : Lib.byteCells (a ++ b) = Lib.byteCells a ++ Lib.byteCells b := by simp [Lib.byteCells]

theorem byteCells_len (a : List UInt8) : (Lib.byteCells a).length = a.length := by simp [Lib.byteCells]

theorem wbyte (B : Nat) (l : List UInt8) (c : UInt8) (x : Int) (w : World) (hx : x = (c.toNat : Int)) (h : BB B l w) (hl : l.length + 1 ≤ 140737488355328) :
    Calls Tryd.prog 28 #[.pointer (some ⟨B, 0, none⟩), .int .u8 x] w fun e w' => e = .returned .nilIface ∧ BB B (l ++ [c]) w' ∧ Below B w w' := by
  subst hx
  refine (Any.Builder_WriteByte_k lays167 extra167 B B (Lib.byteCells l) (c.toNat : Int) w h.1 (by rw [byteCells_len]; exact hl) h.2).mono ?_
  rintro e w' ⟨rfl, h1, h2, _⟩
  exact ⟨rfl, ⟨by rw [byteCells_append]; exact .inr h1, Nat.le_trans h.2 h2.size⟩, h2⟩

theorem wstr (B : Nat) (l : List UInt8) (s : ByteArray) (w : World) (h : BB B l w) (hl : l.length + s.size ≤ 140737488355328) :
    Calls Tryd.prog 29 #[.pointer (some ⟨B, 0, none⟩), .string s] w fun e w' => e = .returned (.tuple #[.int .i64 s.size, .nilIface]) ∧ BB B (l ++ s.data.toList) w' ∧ Below B w w' := by
  refine (Any.Builder_WriteString_k lays166 extra166 B B (Lib.byteCells l) s w h.1 (by rw [byteCells_len]; exact hl) h.2).mono ?_
  rintro e w' ⟨rfl, h1, h2, _⟩
  exact ⟨rfl, ⟨by rw [byteCells_append]; exact .inr h1, Nat.le_trans h.2 h2.size⟩, h2⟩

theorem bstr (B : Nat) (l : List UInt8) (w : World) (h : BB B l w) :
    Calls Tryd.prog 33 #[.pointer (some ⟨B, 0, none⟩)] w fun e w' => e = .returned (.string (bs l)) ∧ Below B w w' := by
  refine (Tryd.Builder_String_any_k B B l w h.1 h.2).mono ?_
  rintro e w' ⟨rfl, _, h2, _⟩
  exact ⟨rfl, h2⟩

theorem below_grow (w : World) (q : Nat) (os : Array Obj) : Below w.heap.size w (grow (w.drewN q) os) :=
  ⟨rfl, rfl, rfl, by simp [grow], fun i hi => by show (w.heap ++ os)[i]? = w.heap[i]?; rw [Array.getElem?_append_left hi]⟩

theorem itoa_any (n : Int) (w : World) (h0 : -9223372036854775808 ≤ n) (h1 : n ≤ 9223372036854775807) (htab : Lib.TabIs Tryd.prog w "internal/strconv.uint64pow10" .u64 Lib.pow10Tab) :
    Calls Tryd.prog 24 #[.int .i64 n] w fun e w' => e = .returned (.string (bs (Lib.itoa n))) ∧ Below w.heap.size w w' := by
  refine (Tryd.strconv_Itoa n h0 h1 w htab).mono ?_
  rintro e w' ⟨rfl, k, os, rfl⟩
  exact ⟨rfl, below_grow w k os⟩

end Go.Proofs.YtcbhjhkmmdcdeaaDoor
