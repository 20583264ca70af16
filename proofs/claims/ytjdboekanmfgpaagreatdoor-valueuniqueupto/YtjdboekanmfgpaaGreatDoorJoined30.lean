/-
  A builder that a value's text is written to: what is kept besides it; the text of a sorted value. Conditions: at most 2^47 bytes are written.
  What value.writeQuoted and value.writeRow write. Conditions: at most 2^47 bytes are written.
  What value.write's and value.writeObject's own functions write: an element of a list, a member at a sorted place. Conditions: as value.writeRow's.
  What value.writeObject's own function writes: a member at a sorted place. Conditions: as value.writeRow's.
-/
import Derived.Test.YtjdboekanmfgpaaGreatDoorJoined21
import Derived.Test.YtjdboekanmfgpaaGreatDoorJoined24
import Derived.Test.YtjdboekanmfgpaaGreatDoorJoined29
import Derived.Lib.OthersKept
namespace Go.Proofs.YtjdboekanmfgpaaGreatDoor
open Go.RowKit Go.Sort
attribute [local go_sem] setCell_drewN alloc_drewN

/-- What a call that writes to the builder in block B leaves: all below it, and all that is no bytes. -/
def Kp (B : Nat) (w w' : World) : Prop := Below B w w' ∧ Lib.OthersKept 5 (some B) w w'
theorem Kp.refl (B : Nat) (w : World) : Kp B w w := ⟨Below.refl _ _, Lib.OthersKept.refl _ _ _⟩
theorem Kp.trans {B : Nat} {a b c : World} (h : Kp B a b) (k : Kp B b c) : Kp B a c := ⟨h.1.trans k.1, h.2.trans k.2⟩
theorem Kp.of {B : Nat} {w w' : World} (h : Below w.heap.size w w') (hB : B ≤ w.heap.size) : Kp B w w' :=
 ⟨h.mono hB, fun k o hk _ _ => by rw [h.block k (Array.getElem?_eq_some_iff.1 hk).1]; exact hk⟩
theorem Kp.bel {A B : Nat} {a w w' : World} (h : Kp B w w') (hA : A ≤ B) (hb : Below A a w) : Below A a w' := hb.trans (h.1.mono hA)
/-- A block of one type of cells. -/
def Bx (w : World) (b : Nat) (cs : Array Value) (T : TypeId) : Prop := w.heap[b]? = some (.cells cs T (0, 0))
theorem Bx.lt {w : World} {b : Nat} {cs : Array Value} {T : TypeId} (h : Bx w b cs T) : b < w.heap.size := (Array.getElem?_eq_some_iff.1 h).1
theorem Bx.new (w : World) (cs : Array Value) (T : TypeId) : Bx (w.alloc (.cells cs T)) w.heap.size cs T := by
 show (w.heap.push _)[w.heap.size]? = _; simp
theorem Bx.al {w : World} {b : Nat} {cs : Array Value} {T : TypeId} (h : Bx w b cs T) (o : Obj) : Bx (w.alloc o) b cs T := by
 unfold Bx at *
 have hl := (Array.getElem?_eq_some_iff.1 h).1
 show (w.heap.push o)[b]? = _
 rw [Array.getElem?_push, if_neg (by omega)]
 exact h
theorem Bx.bel {w w' : World} {b : Nat} {cs : Array Value} {T : TypeId} (h : Bx w b cs T) (hb : Below w.heap.size w w') : Bx w' b cs T := by
 unfold Bx at *; rw [hb.block b (Array.getElem?_eq_some_iff.1 h).1]; exact h
theorem Bx.kp {w w' : World} {b B : Nat} {cs : Array Value} {T : TypeId} (h : Bx w b cs T) (hk : Kp B w w') (hT : T ≠ 5) (hne : b ≠ B) : Bx w' b cs T :=
 hk.2 b _ h (by simpa using hne) (fun c fz e => by injection e with _ e2 _; exact hT e2)
theorem Bx.cell {w : World} {b : Nat} {cs : Array Value} {T : TypeId} (h : Bx w b cs T) (i : Nat) : w.cell? ⟨b, i, none⟩ = cs[i]? := Lib.cell_of_heap h i
theorem BB.belK {B : Nat} {l : List UInt8} {w w' : World} (h : BB B l w) (hb : Below w.heap.size w w') : BB B l w' := h.below hb
theorem BB.lt {B : Nat} {l : List UInt8} {w : World} (h : BB B l w) : B < w.heap.size := by
 rcases h.1 with h | h
 ·obtain ⟨_, v, hb, _⟩ := h
  exact (Array.getElem?_eq_some_iff.1 hb).1
 ·obtain ⟨_, v, hb, _⟩ := h
  exact (Array.getElem?_eq_some_iff.1 hb).1
theorem wbyteK (B : Nat) (l : List UInt8) (c : UInt8) (x : Int) (w : World) (hx : x = (c.toNat : Int)) (h : BB B l w) (hl : l.length + 1 ≤ 140737488355328) :
  Calls Tryz.prog 93 #[.pointer (some ⟨B, 0, none⟩), .int .u8 x] w fun e w' => e = .returned .nilIface ∧ BB B (l ++ [c]) w' ∧ Kp B w w' := by
 subst hx
 refine (Any.Builder_WriteByte_k lays167 extra167 B B (Lib.byteCells l) (c.toNat : Int) w h.1 (by rw [byteCells_len]; exact hl) h.2).mono ?_
 rintro e w' ⟨rfl, h1, h2, h3⟩
 exact ⟨rfl, ⟨by rw [byteCells_append]; exact .inr h1, Nat.le_trans h.2 h2.size⟩, h2, h3⟩

theorem wstrK (B : Nat) (l : List UInt8) (s : ByteArray) (w : World) (h : BB B l w) (hl : l.length + s.size ≤ 140737488355328) :
  Calls Tryz.prog 58 #[.pointer (some ⟨B, 0, none⟩), .string s] w fun e w' => e = .returned (.tuple #[.int .i64 s.size, .nilIface]) ∧ BB B (l ++ s.data.toList) w' ∧ Kp B w w' := by
 refine (Any.Builder_WriteString_k lays166 extra166 B B (Lib.byteCells l) s w h.1 (by rw [byteCells_len]; exact hl) h.2).mono ?_
 rintro e w' ⟨rfl, h1, h2, h3⟩
 exact ⟨rfl, ⟨by rw [byteCells_append]; exact .inr h1, Nat.le_trans h.2 h2.size⟩, h2, h3⟩

/-- Texts one behind the other, with a sign between them. -/
def jn (el : Nat → List UInt8) : Nat → List UInt8
 | 0 => []
 | i + 1 => jn el i ++ ((if i = 0 then [] else [44]) ++ el i)
def qt (s : ByteArray) : List UInt8 := Lx.quoteL s.data.toList
def dL (l : List (List UInt8)) (i : Nat) : List UInt8 := l.getD i []
def dK (ks : List ByteArray) (i : Nat) : ByteArray := ks.getD i ByteArray.empty
mutual
/-- The text of a sorted value. -/
def txV : JV → List UInt8
 | .mk k n g e t l ks =>
  if k = 0 then [110, 117, 108, 108] else if k = 1 then [102, 97, 108, 115, 101] else if k = 2 then [116, 114, 117, 101] else if k = 3 then textL ⟨n, g.data.toList, e⟩ else if k = 4 then qt t
  else if k = 5 then [91] ++ jn (dL (txL l)) l.length ++ [93] else if k = 6 then [123] ++ jn (fun i => qt (dK ks i) ++ ([58] ++ dL (txL l) i)) l.length ++ [125] else []
def txL : List JV → List (List UInt8)
 | [] => []
 | v :: l => txV v :: txL l
end
theorem txL_map : ∀ l : List JV, txL l = l.map txV
 | [] => by unfold txL; rfl
 | v :: l => by unfold txL; rw [txL_map l]; rfl
theorem jn_congr {f g : Nat → List UInt8} : ∀ n, (∀ i, i < n → f i = g i) → jn f n = jn g n
 | 0, _ => rfl
 | n + 1, h => by
  unfold jn
  rw [jn_congr n (fun i hi => h i (by omega)), h n (by omega)]
/-- The text of an array. -/
theorem tx_arr (n : Bool) (g : ByteArray) (e : Int) (t : ByteArray) (l : List JV) (ks : List ByteArray) (d : JV) : txV (srt (.mk 5 n g e t l ks)) = [91] ++ jn (fun i => txV (srt (l.getD i d))) l.length ++ [93] := by
 rw [srt, if_neg (by decide), txV, if_neg (by decide), if_neg (by decide), if_neg (by decide), if_neg (by decide), if_neg (by decide), if_pos rfl, srtL_len]
 congr 2
 refine jn_congr _ fun i hi => ?_
 unfold dL
 rw [txL_map, srtL_map]
 simp [hi]
/-- The text of an object, by sorted places. -/
theorem tx_obj (n : Bool) (g : ByteArray) (e : Int) (t : ByteArray) (l : List JV) (ks : List ByteArray) (d : JV) {ps : List Nat} (hl : ks.length = l.length) (hn : ks.Nodup) (hs : SortedBy (byK ks) ks.length ps) :
  txV (srt (.mk 6 n g e t l ks)) = [123] ++ jn (fun i => qt (dK ks (ps.getD i 0)) ++ ([58] ++ txV (srt (l.getD (ps.getD i 0) d)))) ps.length ++ [125] := by
 have e1 := sorted_mem (d := d) hl hn hs
 have hpl : ps.length = ks.length := by rw [hs.1.length_eq, List.length_range]
 rw [srt_obj, txV, if_neg (by decide), if_neg (by decide), if_neg (by decide), if_neg (by decide), if_neg (by decide), if_neg (by decide), if_pos rfl, List.length_map, ← e1, List.length_map]
 congr 2
 refine jn_congr _ fun i hi => ?_
 unfold dL dK
 rw [txL_map]
 simp [hi]
theorem jn_le {el : Nat → List UInt8} : ∀ {n i : Nat}, i ≤ n → (jn el i).length ≤ (jn el n).length
 | 0, i, h => by rw [show i = 0 by omega]; exact Nat.le_refl _
 | n + 1, i, h => by
  by_cases e : i = n + 1
  ·rw [e]; exact Nat.le_refl _
  ·have := jn_le (el := el) (n := n) (i := i) (by omega)
   have h2 : (jn el (n + 1)).length = (jn el n).length + ((if n = 0 then [] else [44]) ++ el n).length := by
    rw [jn, List.length_append]
   omega
end Go.Proofs.YtjdboekanmfgpaaGreatDoor

namespace Go.Proofs.YtjdboekanmfgpaaGreatDoor
open Go.RowKit Go.Sort
attribute [local go_sem] setCell_drewN alloc_drewN

set_option maxHeartbeats 800000 in
theorem quoted_any (s : ByteArray) (hu : utB s = true) (hs : s.size ≤ 8796093022208) (B : Nat) (l : List UInt8) (w : World) (hT : Lx.Tab w) (h : BB B l w) (hl : l.length + (qt s).length ≤ 140737488355328) :
  Calls Tryz.prog 60 #[.pointer (some ⟨B, 0, none⟩), .string s] w fun r w' => r = .returned (.tuple #[]) ∧ BB B (l ++ qt s) w' ∧ Kp B w w' := by
 have cal := Lx.quote_any s w hT hs
 unfold utB at hu
 rw [if_pos hu, if_pos hu] at cal
 have hq : ∀ w', Below w.heap.size w w' → Calls Tryz.prog 58 #[.pointer (some ⟨B, 0, none⟩), .string ⟨(Lx.quoteL s.data.toList).toArray⟩] w' fun e w'' => (∃ v, e = .returned v) ∧ BB B (l ++ qt s) w'' ∧ Kp B w w'' := fun w' hb =>
  (wstrK B l ⟨(Lx.quoteL s.data.toList).toArray⟩ w' (h.below hb) (by
   have : (ByteArray.mk (Lx.quoteL s.data.toList).toArray).size = (qt s).length := bs_size _
   rw [this]; exact hl)).mono fun e w'' ⟨h1, h2, h3⟩ => ⟨⟨_, h1⟩, by unfold qt; exact h2, (Kp.of hb h.2).trans h3⟩
 generalize qt s = q at *
 clear hu hs hT h hl
 go_enter Tryz.func60, Tryz.ntmps60
 go_wp2_with (first | (go_at_call 92; refine cal.mono ?_; rintro r w1 ⟨rfl, hb1⟩) | (go_at_call 58; refine (hq _ hb1).mono ?_; rintro r w2 ⟨⟨v2, rfl⟩, h1, h2⟩))
 go_end0
 exact ⟨rfl, h1, h2⟩

/-- A function that writes the element at a place. -/
def ElAt (w0 : World) (B : Nat) (g : FuncId) (cb : Array Value) (n M : Nat) (el : Nat → List UInt8) : Prop :=
 (∀ args w, (callFunc g args).run Tryz.prog w = .ok (.enter g args) w) ∧ ∀ w' l' i, Kp B w0 w' → BB B l' w' → i < n → l'.length + (el i).length ≤ M →
  Calls Tryz.prog g (#[.int .i64 (i : Int)] ++ cb) w' fun r w'' => r = .returned (.tuple #[]) ∧ BB B (l' ++ el i) w'' ∧ Kp B w' w''

set_option maxRecDepth 100000 in
set_option maxHeartbeats 3200000 in
theorem row_arr (n M : Nat) (hn : n ≤ 1099511627776) (hM : M ≤ 140737488355328) (g : FuncId) (cb : Array Value) (el : Nat → List UInt8) (B : Nat) (l : List UInt8) (w : World) (hB : BB B l w) (hE : ElAt w B g cb n M el) (hl : (l ++ [91] ++ jn el n ++ [93]).length ≤ M) :
  Calls Tryz.prog 61 #[.pointer (some ⟨B, 0, none⟩), .string ⟨#[91, 93]⟩, .int .i64 (n : Int), .func (.func g) #[] cb] w fun r w' => r = .returned (.tuple #[]) ∧ BB B (l ++ [91] ++ jn el n ++ [93]) w' ∧ Kp B w w' := by
 obtain ⟨P, hP⟩ : ∃ P : Ending → World → Prop, P = fun r w' => r = .returned (.tuple #[]) ∧ BB B (l ++ [91] ++ jn el n ++ [93]) w' ∧ Kp B w w' := ⟨_, rfl⟩
 rw [← hP]
 have HP := hid_intro hP
 have eg := hE.1
 have HE := hid_intro hE.2
 have HL : Hid (∀ i, i ≤ n → (l ++ [91] ++ jn el i).length + 1 ≤ M) := hid_intro (fun i hi => by
  have := jn_le (el := el) hi
  simp only [List.length_append, List.length_cons, List.length_nil] at hl ⊢
  omega)
 have HN : Hid (∀ i, i < n → (l ++ [91] ++ jn el i ++ (if i = 0 then [] else [44])).length + (el i).length ≤ M) := hid_intro (fun i hi => by
  have := jn_le (el := el) (show i + 1 ≤ n from hi)
  rw [jn] at this
  simp only [List.length_append, List.length_cons, List.length_nil] at hl this ⊢
  omega)
 have HM := hid_intro hM
 have hw := fun w' x (c : UInt8) (l' : List UInt8) (hx : x = (c.toNat : Int)) (h : BB B l' w') (hl' : l'.length + 1 ≤ M) => wbyteK B l' c x w' hx h (Nat.le_trans hl' hM)
 have HW := hid_intro hw
 have HB0 := hid_intro hB
 have HL0 : Hid (l.length + 1 ≤ M) := hid_intro (by simp only [List.length_append, List.length_cons, List.length_nil] at hl; omega)
 have HL1 := hid_intro hl
 have hnI : (n : Int) ≤ 1099511627776 := by omega
 clear hP hE hl hM hw hB hn
 go_enter Tryz.func61, Tryz.ntmps61
 go_wp2_with (first | (go_at_call 93; refine (HW.out _ _ 91 l (by rfl) HB0.out HL0.out).mono ?_; rintro r w1 ⟨rfl, hb1, hk1⟩))
 have HB1 := hid_intro hb1
 have HK1 := hid_intro hk1
 clear hb1 hk1
 go_loopg [14] n (fun gg s14 wr => ∃ i : Nat, i ≤ n ∧ gg = n - i ∧ s14 = .int .i64 (i : Int) ∧ Hid (BB B (l ++ [91] ++ jn el i) wr) ∧ Hid (Kp B w wr))
 case atStart => exact ⟨0, Nat.zero_le _, rfl, rfl, hid_intro (by simp only [jn, List.append_nil]; exact HB1.out), HK1⟩
 case round =>
  clear HB1 HK1
  obtain ⟨i, hi, rfl, rfl, HB, HK⟩ := hrel
  by_cases h : i < n
  ·have hI : (i : Int) < (n : Int) := by omega
   by_cases h0 : i = 0
   ·subst h0
    have cal := HE.out wr _ 0 HK.out (by have := HB.out; exact this) h (by have := HN.out 0 h; simpa using this)
    go_wp2_with (first | (go_at_fn g; refine cal.mono ?_; rintro r w2 ⟨rfl, hb2, hk2⟩))
    go_roundg (n - (0 + 1))
    case measure => omega
    case rel => exact ⟨0 + 1, by omega, rfl, by go_num, hid_intro (by simpa [jn, List.append_assoc] using hb2), hid_intro (HK.out.trans hk2)⟩
   ·have hI0 : (0 : Int) < (i : Int) := by omega
    have hin : ¬ i = 0 := h0
    have HNI := hid_intro (HN.out i h)
    have HI0 := hid_intro h0
    go_wp2_with (first | (go_at_call 93; refine (HW.out _ _ 44 _ (by rfl) HB.out (HL.out i hi)).mono ?_; rintro r w2 ⟨rfl, hb2, hk2⟩) | (go_at_fn g; refine (HE.out _ _ i (HK.out.trans hk2) hb2 h (by have := HNI.out; rw [if_neg HI0.out] at this; exact this)).mono ?_; rintro r w3 ⟨rfl, hb3, hk3⟩))
    go_roundg (n - (i + 1))
    case measure => omega
    case rel => exact ⟨i + 1, by omega, rfl, by go_num, hid_intro (by rw [jn, if_neg HI0.out]; simpa [List.append_assoc] using hb3), hid_intro ((HK.out.trans hk2).trans hk3)⟩
  ·have hI : ¬ ((i : Int) < (n : Int)) := by omega
   obtain rfl : i = n := by omega
   go_wp2_with (first | (go_at_call 93; refine (HW.out _ _ 93 _ (by rfl) HB.out (HL.out i hi)).mono ?_; rintro r w2 ⟨rfl, hb2, hk2⟩))
   go_end0
   rw [HP.out]
   exact ⟨rfl, hb2, HK.out.trans hk2⟩

set_option maxRecDepth 100000 in
set_option maxHeartbeats 3200000 in
theorem row_obj (n M : Nat) (hn : n ≤ 1099511627776) (hM : M ≤ 140737488355328) (g : FuncId) (cb : Array Value) (el : Nat → List UInt8) (B : Nat) (l : List UInt8) (w : World) (hB : BB B l w) (hE : ElAt w B g cb n M el) (hl : (l ++ [123] ++ jn el n ++ [125]).length ≤ M) :
  Calls Tryz.prog 61 #[.pointer (some ⟨B, 0, none⟩), .string ⟨#[123, 125]⟩, .int .i64 (n : Int), .func (.func g) #[] cb] w fun r w' => r = .returned (.tuple #[]) ∧ BB B (l ++ [123] ++ jn el n ++ [125]) w' ∧ Kp B w w' := by
 obtain ⟨P, hP⟩ : ∃ P : Ending → World → Prop, P = fun r w' => r = .returned (.tuple #[]) ∧ BB B (l ++ [123] ++ jn el n ++ [125]) w' ∧ Kp B w w' := ⟨_, rfl⟩
 rw [← hP]
 have HP := hid_intro hP
 have eg := hE.1
 have HE := hid_intro hE.2
 have HL : Hid (∀ i, i ≤ n → (l ++ [123] ++ jn el i).length + 1 ≤ M) := hid_intro (fun i hi => by
  have := jn_le (el := el) hi
  simp only [List.length_append, List.length_cons, List.length_nil] at hl ⊢
  omega)
 have HN : Hid (∀ i, i < n → (l ++ [123] ++ jn el i ++ (if i = 0 then [] else [44])).length + (el i).length ≤ M) := hid_intro (fun i hi => by
  have := jn_le (el := el) (show i + 1 ≤ n from hi)
  rw [jn] at this
  simp only [List.length_append, List.length_cons, List.length_nil] at hl this ⊢
  omega)
 have HM := hid_intro hM
 have hw := fun w' x (c : UInt8) (l' : List UInt8) (hx : x = (c.toNat : Int)) (h : BB B l' w') (hl' : l'.length + 1 ≤ M) => wbyteK B l' c x w' hx h (Nat.le_trans hl' hM)
 have HW := hid_intro hw
 have HB0 := hid_intro hB
 have HL0 : Hid (l.length + 1 ≤ M) := hid_intro (by simp only [List.length_append, List.length_cons, List.length_nil] at hl; omega)
 have HL1 := hid_intro hl
 have hnI : (n : Int) ≤ 1099511627776 := by omega
 clear hP hE hl hM hw hB hn
 go_enter Tryz.func61, Tryz.ntmps61
 go_wp2_with (first | (go_at_call 93; refine (HW.out _ _ 123 l (by rfl) HB0.out HL0.out).mono ?_; rintro r w1 ⟨rfl, hb1, hk1⟩))
 have HB1 := hid_intro hb1
 have HK1 := hid_intro hk1
 clear hb1 hk1
 go_loopg [14] n (fun gg s14 wr => ∃ i : Nat, i ≤ n ∧ gg = n - i ∧ s14 = .int .i64 (i : Int) ∧ Hid (BB B (l ++ [123] ++ jn el i) wr) ∧ Hid (Kp B w wr))
 case atStart => exact ⟨0, Nat.zero_le _, rfl, rfl, hid_intro (by simp only [jn, List.append_nil]; exact HB1.out), HK1⟩
 case round =>
  clear HB1 HK1
  obtain ⟨i, hi, rfl, rfl, HB, HK⟩ := hrel
  by_cases h : i < n
  ·have hI : (i : Int) < (n : Int) := by omega
   by_cases h0 : i = 0
   ·subst h0
    have cal := HE.out wr _ 0 HK.out (by have := HB.out; exact this) h (by have := HN.out 0 h; simpa using this)
    go_wp2_with (first | (go_at_fn g; refine cal.mono ?_; rintro r w2 ⟨rfl, hb2, hk2⟩))
    go_roundg (n - (0 + 1))
    case measure => omega
    case rel => exact ⟨0 + 1, by omega, rfl, by go_num, hid_intro (by simpa [jn, List.append_assoc] using hb2), hid_intro (HK.out.trans hk2)⟩
   ·have hI0 : (0 : Int) < (i : Int) := by omega
    have hin : ¬ i = 0 := h0
    have HNI := hid_intro (HN.out i h)
    have HI0 := hid_intro h0
    go_wp2_with (first | (go_at_call 93; refine (HW.out _ _ 44 _ (by rfl) HB.out (HL.out i hi)).mono ?_; rintro r w2 ⟨rfl, hb2, hk2⟩) | (go_at_fn g; refine (HE.out _ _ i (HK.out.trans hk2) hb2 h (by have := HNI.out; rw [if_neg HI0.out] at this; exact this)).mono ?_; rintro r w3 ⟨rfl, hb3, hk3⟩))
    go_roundg (n - (i + 1))
    case measure => omega
    case rel => exact ⟨i + 1, by omega, rfl, by go_num, hid_intro (by rw [jn, if_neg HI0.out]; simpa [List.append_assoc] using hb3), hid_intro ((HK.out.trans hk2).trans hk3)⟩
  ·have hI : ¬ ((i : Int) < (n : Int)) := by omega
   obtain rfl : i = n := by omega
   go_wp2_with (first | (go_at_call 93; refine (HW.out _ _ 125 _ (by rfl) HB.out (HL.out i hi)).mono ?_; rintro r w2 ⟨rfl, hb2, hk2⟩))
   go_end0
   rw [HP.out]
   exact ⟨rfl, hb2, HK.out.trans hk2⟩

end Go.Proofs.YtjdboekanmfgpaaGreatDoor

namespace Go.Proofs.YtjdboekanmfgpaaGreatDoor
open Go.RowKit Go.Sort
attribute [local go_sem] setCell_drewN alloc_drewN

set_option maxRecDepth 100000 in
set_option maxHeartbeats 1600000 in
/-- An element of a list. -/
theorem write1_any (w : World) (B ob vb : Nat) (l : List JV) (lv : Value) (G : Nat → Nat → Value) (ho : w.cell? ⟨ob, 0, none⟩ = some (.pointer (some ⟨B, 0, none⟩))) (hv : w.cell? ⟨vb, 5, none⟩ = some lv) (hl : LI w (fun _ => False) l lv G) (i : Nat) (hi : i < l.length) (Q : World → Prop) (hQ : ∀ w', Q w' → Q w'.drew)
  (hc : ∀ w', Below w.heap.size w w' → Calls Tryz.prog 32 #[.pointer (some ⟨B, 0, none⟩), va (G i)] w' fun r w'' => r = .returned (.tuple #[]) ∧ Q w'') :
  Calls Tryz.prog 62 #[.int .i64 (i : Int), .pointer (some ⟨ob, 0, none⟩), .pointer (some ⟨vb, 0, none⟩)] w fun r w' => r = .returned (.tuple #[]) ∧ Q w' := by
 have hm : l.length ≤ maxLen := hl.choose_spec.choose_spec.2.1
 obtain ⟨b, off, cap, rfl, hlt, ha⟩ := hl.at hi
 have hiI : (i : Int) < (l.length : Int) := by omega
 have hI0 : (0 : Int) ≤ (i : Int) := by omega
 have hm' : (l.length : Int) ≤ 9223372036854775807 := by unfold maxLen at hm; omega
 have mixed : Tryz.prog.follows .mixedOrders = true := by kernel_rfl
 have a0 : w.cell? ⟨b, off + i * 7, none⟩ = some (G i 0) := ha 0 (by omega)
 have a1 := ha 1 (by omega)
 have a2 := ha 2 (by omega)
 have a3 := ha 3 (by omega)
 have a4 := ha 4 (by omega)
 have a5 := ha 5 (by omega)
 have a6 := ha 6 (by omega)
 have HC := hid_intro hc
 have HQ := hid_intro hQ
 clear hc ha hl hlt hm hi hQ
 go_enter Tryz.func62, Tryz.ntmps62
 go_wp2_with fail
 go_region_with (go_at_call 32; refine (HC.out _ (by with_reducible repeat (first | exact Below.refl _ _ | refine vb_d ?_))).mono ?_; rintro r w2 ⟨rfl, hq⟩)
 all_goals
  go_wp2_with fail
  go_end0
  exact ⟨rfl, hq⟩
theorem enters_write1 : ∀ args w, (callFunc 62 args).run Tryz.prog w = .ok (.enter 62 args) w := enters_of Tryz.func62 (by kernel_rfl) rfl
end Go.Proofs.YtjdboekanmfgpaaGreatDoor

namespace Go.Proofs.YtjdboekanmfgpaaGreatDoor
open Go.RowKit Go.Sort
attribute [local go_sem] setCell_drewN alloc_drewN

/-- Where a member lies: the boxes, its place, its key, its value. -/
structure MF (w : World) (B ob vb pb : Nat) (lb loff ln lc kb koff kn kc' xb xoff pn pc : Nat) (i j : Nat) (key : ByteArray) (F : Nat → Value) : Prop where
 o : w.cell? ⟨ob, 0, none⟩ = some (.pointer (some ⟨B, 0, none⟩))
 k : w.cell? ⟨vb, 6, none⟩ = some (.slice (some ⟨kb, koff, none⟩) kn kc')
 l : w.cell? ⟨vb, 5, none⟩ = some (.slice (some ⟨lb, loff, none⟩) ln lc)
 p : w.cell? ⟨pb, 0, none⟩ = some (.slice (some ⟨xb, xoff, none⟩) pn pc)
 x : w.cell? ⟨xb, xoff + i, none⟩ = some (.int .i64 (j : Int))
 s : w.cell? ⟨kb, koff + j, none⟩ = some (.string key)
 c : ∀ q, q < 7 → w.cell? ⟨lb, loff + j * 7 + q, none⟩ = some (F q)

set_option maxRecDepth 100000 in
set_option maxHeartbeats 3200000 in
theorem member1_any (w : World) (B ob vb pb lb loff ln lc kb koff kn kc' xb xoff pn pc i j : Nat) (key : ByteArray) (F : Nat → Value) (hi : i < pn) (hj : j < kn) (hj2 : j < ln) (h1 : pn ≤ 1099511627776) (h2 : kn ≤ 1099511627776) (h3 : ln ≤ 1099511627776)
  (hMF : ∀ w', Kp B w w' → MF w' B ob vb pb lb loff ln lc kb koff kn kc' xb xoff pn pc i j key F) (l q x : List UInt8) (hB : BB B l w) (hl : (l ++ (q ++ ([58] ++ x))).length ≤ 140737488355328)
  (hq : ∀ w', Kp B w w' → BB B l w' → Calls Tryz.prog 60 #[.pointer (some ⟨B, 0, none⟩), .string key] w' fun r w'' => r = .returned (.tuple #[]) ∧ BB B (l ++ q) w'' ∧ Kp B w w'')
  (hc : ∀ w', Kp B w w' → BB B (l ++ q ++ [58]) w' → Calls Tryz.prog 32 #[.pointer (some ⟨B, 0, none⟩), .agg #[F 0, F 1, F 2, F 3, F 4, F 5, F 6]] w' fun r w'' => r = .returned (.tuple #[]) ∧ BB B (l ++ q ++ [58] ++ x) w'' ∧ Kp B w w'') :
  Calls Tryz.prog 94 #[.int .i64 (i : Int), .pointer (some ⟨ob, 0, none⟩), .pointer (some ⟨vb, 0, none⟩), .pointer (some ⟨pb, 0, none⟩)] w fun r w' => r = .returned (.tuple #[]) ∧ BB B (l ++ (q ++ ([58] ++ x))) w' ∧ Kp B w w' := by
 have hiI : (i : Int) < (pn : Int) := by omega
 have hjI : (j : Int) < (kn : Int) := by omega
 have hjI2 : (j : Int) < (ln : Int) := by omega
 have hI0 : (0 : Int) ≤ (i : Int) := by omega
 have hJ0 : (0 : Int) ≤ (j : Int) := by omega
 have hm1 : (pn : Int) ≤ 1099511627776 := by omega
 have hm2 : (kn : Int) ≤ 1099511627776 := by omega
 have hm3 : (ln : Int) ≤ 1099511627776 := by omega
 have mixed : Tryz.prog.follows .mixedOrders = true := by kernel_rfl
 have HB := hid_intro hB
 have HK : Hid (∀ w2, Kp B w w2 → B ≤ w2.heap.size → ∀ w', Below w2.heap.size w2 w' → Kp B w w') := hid_intro (fun w2 hk hb w' hbel => hk.trans (Kp.of hbel hb))
 have HS1 : Hid (∀ w', Kp B w w' → w'.cell? ⟨ob, 0, none⟩ = some (.pointer (some ⟨B, 0, none⟩)) ∧ w'.cell? ⟨vb, 6, none⟩ = some (.slice (some ⟨kb, koff, none⟩) kn kc') ∧ w'.cell? ⟨pb, 0, none⟩ = some (.slice (some ⟨xb, xoff, none⟩) pn pc) ∧ w'.cell? ⟨xb, xoff + i, none⟩ = some (.int .i64 (j : Int)) ∧ w'.cell? ⟨kb, koff + j, none⟩ = some (.string key)) := hid_intro (fun w' hk => ⟨(hMF w' hk).o, (hMF w' hk).k, (hMF w' hk).p, (hMF w' hk).x, (hMF w' hk).s⟩)
 have HS2 : Hid (∀ w', Kp B w w' → w'.cell? ⟨ob, 0, none⟩ = some (.pointer (some ⟨B, 0, none⟩)) ∧ w'.cell? ⟨vb, 5, none⟩ = some (.slice (some ⟨lb, loff, none⟩) ln lc) ∧ w'.cell? ⟨pb, 0, none⟩ = some (.slice (some ⟨xb, xoff, none⟩) pn pc) ∧ w'.cell? ⟨xb, xoff + i, none⟩ = some (.int .i64 (j : Int)) ∧ w'.cell? ⟨lb, loff + j * 7, none⟩ = some (F 0) ∧ w'.cell? ⟨lb, loff + j * 7 + 1, none⟩ = some (F 1) ∧ w'.cell? ⟨lb, loff + j * 7 + 2, none⟩ = some (F 2) ∧ w'.cell? ⟨lb, loff + j * 7 + 3, none⟩ = some (F 3) ∧ w'.cell? ⟨lb, loff + j * 7 + 4, none⟩ = some (F 4) ∧ w'.cell? ⟨lb, loff + j * 7 + 5, none⟩ = some (F 5) ∧ w'.cell? ⟨lb, loff + j * 7 + 6, none⟩ = some (F 6)) := hid_intro (fun w' hk => ⟨(hMF w' hk).o, (hMF w' hk).l, (hMF w' hk).p, (hMF w' hk).x, (hMF w' hk).c 0 (by omega), (hMF w' hk).c 1 (by omega), (hMF w' hk).c 2 (by omega), (hMF w' hk).c 3 (by omega), (hMF w' hk).c 4 (by omega), (hMF w' hk).c 5 (by omega), (hMF w' hk).c 6 (by omega)⟩)
 have HM := hid_intro hMF
 have HQ : Hid (∀ w', Below w.heap.size w w' → Calls Tryz.prog 60 #[.pointer (some ⟨B, 0, none⟩), .string key] w' fun r w'' => r = .returned (.tuple #[]) ∧ BB B (l ++ q) w'' ∧ Kp B w w'') := hid_intro (fun w' hb => hq w' (Kp.of hb hB.2) (hB.below hb))
 have HW : Hid (∀ w', Kp B w w' → BB B (l ++ q) w' → Calls Tryz.prog 93 #[.pointer (some ⟨B, 0, none⟩), .int .u8 58] w' fun e w'' => e = .returned .nilIface ∧ BB B (l ++ q ++ [58]) w'' ∧ Kp B w w'') := hid_intro (fun w' hk hb => (wbyteK B (l ++ q) 58 58 w' (by rfl) hb (by simp only [List.length_append, List.length_cons, List.length_nil] at hl ⊢; omega)).mono fun e w'' ⟨h1, h2, h3⟩ => ⟨h1, h2, hk.trans h3⟩)
 have HC : Hid (∀ w2, Kp B w w2 → BB B (l ++ q ++ [58]) w2 → ∀ w', Below w2.heap.size w2 w' → Calls Tryz.prog 32 #[.pointer (some ⟨B, 0, none⟩), .agg #[F 0, F 1, F 2, F 3, F 4, F 5, F 6]] w' fun r w'' => r = .returned (.tuple #[]) ∧ BB B (l ++ q ++ [58] ++ x) w'' ∧ Kp B w w'') := hid_intro (fun w2 hk hb w' hbel => hc w' (hk.trans (Kp.of hbel hb.2)) (hb.below hbel))
 have HO : Hid (∀ w', Kp B w w' → w'.cell? ⟨ob, 0, none⟩ = some (.pointer (some ⟨B, 0, none⟩))) := hid_intro (fun w' hk => (hMF w' hk).o)
 clear hMF hB hl hq hc hi hj hj2 h1 h2 h3
 go_enter Tryz.func94, Tryz.ntmps94
 go_wp2_with fail
 go_region_held3 (fun w' => w'.cell? ⟨ob, 0, none⟩ = some (.pointer (some ⟨B, 0, none⟩)) ∧ w'.cell? ⟨vb, 6, none⟩ = some (.slice (some ⟨kb, koff, none⟩) kn kc') ∧ w'.cell? ⟨pb, 0, none⟩ = some (.slice (some ⟨xb, xoff, none⟩) pn pc) ∧ w'.cell? ⟨xb, xoff + i, none⟩ = some (.int .i64 (j : Int)) ∧ w'.cell? ⟨kb, koff + j, none⟩ = some (.string key)) (first | exact HS1.out _ hq2 | (refine HS1.out _ ?_; (first | (refine HK.out w (Kp.refl _ _) HB.out.2 _ ?_; with_reducible repeat (first | exact Below.refl _ _ | refine vb_d ?_)) | (refine HK.out _ hq2 hq1.2 _ ?_; with_reducible repeat (first | exact Below.refl _ _ | refine vb_d ?_)))) | fail) (first | (go_at_call 60; refine (HQ.out _ (by with_reducible repeat (first | exact Below.refl _ _ | refine vb_d ?_))).mono ?_; rintro r w2 ⟨rfl, hq1, hq2⟩) | fail)
 all_goals
  have HK2 := hid_intro hq2
  have HB2 := hid_intro hq1
  have n1 := HO.out _ hq2
  clear hq1 hq2
  go_wp2_with (first | (go_at_call 93; refine (HW.out _ HK2.out HB2.out).mono ?_; rintro r w3 ⟨rfl, hb3, hk3⟩))
  have HK3 := hid_intro hk3
  have HB3 := hid_intro hb3
  clear hb3 hk3 n1
  go_wp2_with fail
  go_region_held3 (fun w' => w'.cell? ⟨ob, 0, none⟩ = some (.pointer (some ⟨B, 0, none⟩)) ∧ w'.cell? ⟨vb, 5, none⟩ = some (.slice (some ⟨lb, loff, none⟩) ln lc) ∧ w'.cell? ⟨pb, 0, none⟩ = some (.slice (some ⟨xb, xoff, none⟩) pn pc) ∧ w'.cell? ⟨xb, xoff + i, none⟩ = some (.int .i64 (j : Int)) ∧ w'.cell? ⟨lb, loff + j * 7, none⟩ = some (F 0) ∧ w'.cell? ⟨lb, loff + j * 7 + 1, none⟩ = some (F 1) ∧ w'.cell? ⟨lb, loff + j * 7 + 2, none⟩ = some (F 2) ∧ w'.cell? ⟨lb, loff + j * 7 + 3, none⟩ = some (F 3) ∧ w'.cell? ⟨lb, loff + j * 7 + 4, none⟩ = some (F 4) ∧ w'.cell? ⟨lb, loff + j * 7 + 5, none⟩ = some (F 5) ∧ w'.cell? ⟨lb, loff + j * 7 + 6, none⟩ = some (F 6)) (first | exact HS2.out _ hk4 | (refine HS2.out _ ?_; (first | (refine HK.out w3 HK3.out HB3.out.2 _ ?_; with_reducible repeat (first | exact Below.refl _ _ | refine vb_d ?_)) | (refine HK.out _ hk4 hb4.2 _ ?_; with_reducible repeat (first | exact Below.refl _ _ | refine vb_d ?_)))) | fail) (first | (go_at_call 32; refine (HC.out _ HK3.out HB3.out _ (by with_reducible repeat (first | exact Below.refl _ _ | refine vb_d ?_))).mono ?_; rintro r w4 ⟨rfl, hb4, hk4⟩) | fail)
  all_goals
   go_wp2_with fail
   go_end0
   exact ⟨rfl, by simpa [List.append_assoc] using hb4, hk4⟩
theorem enters_member1 : ∀ args w, (callFunc 94 args).run Tryz.prog w = .ok (.enter 94 args) w := enters_of Tryz.func94 (by kernel_rfl) rfl
end Go.Proofs.YtjdboekanmfgpaaGreatDoor
