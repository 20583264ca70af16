/-
  A text that is built piece by piece in a strings.Builder, and what rx.rangesText answers: a class's items. Conditions: as pointText's; every range lies in 0 .. 1114111 and rises; at most 2^40 ranges.
  What rx.endsBySurrogate answers: whether a range begins or ends with what is no code point. Conditions: the table of greatest code points as the program lays it; at most 2^40 ranges.
-/
import Derived.Test.YtppilokmgdpnnaaGreatDoorJoined23
import Derived.Test.YtppilokmgdpnnaaGreatDoorJoined15
import Derived.Lib.OthersKept
namespace Go.Proofs.YtppilokmgdpnnaaGreatDoor
open Go.RowKit Go.Sort
attribute [local go_sem] setCell_drewN alloc_drewN

/-- A builder in block B, all of its own from there on, that holds the bytes l. -/
def BX (B : Nat) (l : List UInt8) (w : World) : Prop := Lib.IsBuilderF 127 5 B B (Lib.byteCells l) w ∧ B ≤ w.heap.size
theorem isb_morex {T e : TypeId} {B b : Nat} {xs : List Value} {w w' : World} (h : Lib.IsBuilderF T e B b xs w) (hk : ∀ k, k < w.heap.size → w'.heap[k]? = w.heap[k]?) : Lib.IsBuilderF T e B b xs w' := by
  have key : ∀ p, Lib.BuilderAtF T e B b p xs w → Lib.BuilderAtF T e B b p xs w' := by
    rintro p ⟨hB, v, hb, hown, hne⟩
    refine ⟨hB, v, by rw [hk b (Array.getElem?_eq_some_iff.1 hb).1]; exact hb, ⟨hown.1, ?_⟩, hne⟩
    rcases hown.2 with hn | ⟨g, cap, cur, fz, rfl, hg, hgg, rest⟩
    · exact .inl hn
    · exact .inr ⟨g, cap, cur, fz, rfl, hg, by rw [hk g (Array.getElem?_eq_some_iff.1 hgg).1]; exact hgg, rest⟩
  rcases h with h | h
  · exact .inl (key _ h)
  · exact .inr (key _ h)
theorem BX.below {B : Nat} {l : List UInt8} {w w' : World} (h : BX B l w) (hb : Below w.heap.size w w') : BX B l w' := ⟨isb_morex h.1 hb.block, Nat.le_trans h.2 hb.size⟩
theorem bx_fresh (w : World) : BX w.heap.size [] (w.alloc (.cells #[.pointer none, .slice none 0 0] 127)) := ⟨Lib.IsBuilderF.of (Lib.fresh_isBuilder _ _ w), by simp⟩
theorem byteCells_appendx (a b : List UInt8) : Lib.byteCells (a ++ b) = Lib.byteCells a ++ Lib.byteCells b := by simp [Lib.byteCells]
theorem byteCells_lenx (a : List UInt8) : (Lib.byteCells a).length = a.length := by simp [Lib.byteCells]
theorem wstrx (B : Nat) (l s : List UInt8) (w : World) (h : BX B l w) (hl : l.length + s.length ≤ 140737488355328) :
    Calls Tryz.prog 112 #[.pointer (some ⟨B, 0, none⟩), .string (bsx s)] w fun e w' => e = .returned (.tuple #[.int .i64 s.length, .nilIface]) ∧ BX B (l ++ s) w' ∧ Below B w w' ∧ Lib.OthersKept 5 (some B) w w' := by
  refine (Any.Builder_WriteString_k lays166 extra166 B B (Lib.byteCells l) (bsx s) w h.1 (by rw [byteCells_lenx, bsx_size]; exact hl) h.2).mono ?_
  rintro e w' ⟨rfl, h1, h2, h3⟩
  exact ⟨by rw [bsx_size], ⟨by rw [byteCells_appendx]; exact .inr h1, Nat.le_trans h.2 h2.size⟩, h2, h3⟩
theorem bstrx (B : Nat) (l : List UInt8) (w : World) (h : BX B l w) :
    Calls Tryz.prog 113 #[.pointer (some ⟨B, 0, none⟩)] w fun e w' => e = .returned (.string (bsx l)) ∧ Below B w w' := by
  refine (Tryz.Builder_String_any_k B B l w h.1 h.2).mono ?_
  rintro e w' ⟨rfl, _, h2, _⟩
  exact ⟨rfl, h2⟩
/-- A range that lies in a block. -/
def BkR (w : World) (b : Nat) (x y : Int) : Prop := w.heap[b]? = some (.cells #[.int .i64 x, .int .i64 y] 46 (0, 0))
theorem BkR.bk {w : World} {b : Nat} {x y : Int} (h : BkR w b x y) : Bk w b #[.int .i64 x, .int .i64 y] := ⟨_, h⟩
theorem BkR.bel {w w' : World} {b : Nat} {x y : Int} (h : BkR w b x y) (hb : Below w.heap.size w w') : BkR w' b x y := by
  have hlt : b < w.heap.size := h.bk.lt
  unfold BkR at *; rw [hb.block b hlt]; exact h
theorem BkR.oth {w w' : World} {b B : Nat} {x y : Int} (h : BkR w b x y) (ho : Lib.OthersKept 5 (some B) w w') (hne : b ≠ B) : BkR w' b x y :=
  ho b _ h (by simpa using hne) (fun c fz e => by injection e with _ e2 _; revert e2; decide)
theorem BkR.new (w : World) (x y : Int) : BkR (w.alloc (.cells #[.int .i64 x, .int .i64 y] 46)) w.heap.size x y := by
  unfold BkR; show (w.heap.push _)[w.heap.size]? = _; simp
def clsT : List UInt8 := [92, 93, 94, 45]
def itmL (a b : Nat) : List UInt8 := pointL a clsT ++ (if a + 1 < b then [45] else []) ++ (if a < b then pointL b clsT else [])
def itmsL (l : List (Int × Int)) : List UInt8 := (l.map fun r => itmL r.1.toNat r.2.toNat).flatten
theorem pointL_sz (p : Nat) (hp : p ≤ 1114111) (sp : List UInt8) : (pointL p sp).length ≤ 10 := by
  unfold pointL
  have e : (encL p).length ≤ 4 := by unfold encL; rw [bs_length]; exact encN_le p
  split
  · simp
  · split
    · have := hexL_sz (p / 16) (by omega)
      have := hexL_sz (p % 16) (by omega)
      simp; omega
    · split
      · rename_i h1 h2 h3
        have : ¬ (0 ≤ (p : Int) ∧ (p : Int) ≤ 1114111 ∧ ¬ (55296 ≤ (p : Int) ∧ (p : Int) ≤ 57343)) := fun h => by rw [(ptB_iff p).2 h] at h3; cases h3
        have := hexL_sz p (by omega)
        simp; omega
      · split
        · simp; omega
        · omega
theorem itmL_sz (a b : Nat) (ha : a ≤ 1114111) (hb : b ≤ 1114111) : (itmL a b).length ≤ 21 := by
  unfold itmL
  have := pointL_sz a ha clsT
  have := pointL_sz b hb clsT
  simp only [List.length_append]
  split <;> split <;> simp <;> omega
theorem itmsL_take (l : List (Int × Int)) (k : Nat) (h : k < l.length) : itmsL (l.take (k + 1)) = itmsL (l.take k) ++ itmL (ra l k).1.toNat (ra l k).2.toNat := by
  unfold itmsL
  rw [List.take_succ_eq_append_getElem h, List.map_append, List.flatten_append, ra_get h]
  simp
theorem itmsL_sz (l : List (Int × Int)) (h : ∀ r ∈ l, okR r) : (itmsL l).length ≤ 21 * l.length := by
  induction l with
  | nil => simp [itmsL]
  | cons r l ih =>
    have h1 := ih fun x hx => h x (List.mem_cons_of_mem _ hx)
    obtain ⟨a0, a1, a2⟩ := h r (by simp)
    have h2 := itmL_sz r.1.toNat r.2.toNat (by omega) (by omega)
    have e : itmsL (r :: l) = itmL r.1.toNat r.2.toNat ++ itmsL l := by simp [itmsL]
    rw [e, List.length_append, List.length_cons]
    omega
theorem bel_oth {B : Nat} {a b c : World} (h : Below B a b) (h2 : Below b.heap.size b c) (hB : B ≤ b.heap.size) : Below B a c := h.trans (h2.mono hB)
set_option maxRecDepth 100000 in
set_option maxHeartbeats 1600000 in
theorem rngT_any (l : List (Int × Int)) (v : Value) (w : World) (X : Nat → Prop) (hX : TX w) (hR : RI w X l v) (hok : ∀ r ∈ l, okR r) (hl : l.length ≤ 1099511627776) :
    Calls Tryz.prog 90 #[v] w fun r w' => r = .returned (.string (bsx (itmsL l))) ∧ Below w.heap.size w w' := by
  obtain ⟨P, hP⟩ : ∃ P : Ending → World → Prop, P = fun r w' => r = .returned (.string (bsx (itmsL l))) ∧ Below w.heap.size w w' := ⟨_, rfl⟩
  rw [← hP]
  have HP := hid_intro hP
  have HX := hid_intro hX
  have HOK := hid_intro hok
  obtain ⟨ao, cap, rfl, hc, hcm, hwf, hlie⟩ := hR
  have hf := bx_fresh w
  have HF := hid_intro hf
  have hlI : (l.length : Int) ≤ 1099511627776 := by omega
  have HLN := hid_intro hl
  clear hP hX hok hf hl
  go_enter Tryz.func90, Tryz.ntmps90
  go_wp2_with fail
  go_loopg [8] l.length (fun m s8 wr => ∃ k : Nat, k ≤ l.length ∧ m = l.length - k ∧ s8 = .int .i64 (k : Int) ∧ Hid (BX w.heap.size (itmsL (l.take k)) wr) ∧ Hid (Below w.heap.size w wr) ∧ Hid (w.heap.size < wr.heap.size))
  case atStart => exact ⟨0, Nat.zero_le _, rfl, rfl, hid_intro HF.out, hid_intro (vb_a (Below.refl _ _) _), hid_intro (by simp)⟩
  case round =>
    obtain ⟨k, hk, rfl, rfl, HB, HL, HS⟩ := hrel
    by_cases hlt : k < l.length
    · rcases hlie with hlie | ⟨b, off, rfl, _, hcell⟩
      · subst hlie; simp at hlt
      have q0 := (HL.out.cell (p := ⟨b, off + k * 2, none⟩) (World.block_lt_of_cell? w _ (hcell k hlt).1)).trans (hcell k hlt).1
      have q1 := (HL.out.cell (p := ⟨b, off + k * 2 + 1, none⟩) (World.block_lt_of_cell? w _ (hcell k hlt).2)).trans (hcell k hlt).2
      have hI : (k : Int) < (l.length : Int) := by omega
      have HT := hid_intro (itmsL_take l k hlt)
      have HOr := HOK.out _ (ra_mem hlt)
      have hsz : (itmsL (l.take k)).length ≤ 21 * k := by
        have := itmsL_sz (l.take k) fun r hr => HOK.out r (List.mem_of_mem_take hr)
        rw [List.length_take] at this; omega
      have HSZ : Hid ((itmsL (l.take k)).length ≤ 23089744183296) := hid_intro (by have := HLN.out; omega)
      generalize ra l k = rr at *
      obtain ⟨x, y⟩ := rr
      obtain ⟨x0, x1, x2⟩ := HOr
      simp only at x0 x1 x2 q0 q1
      obtain ⟨a, rfl⟩ := Int.eq_ofNat_of_zero_le x0
      obtain ⟨c, rfl⟩ := Int.eq_ofNat_of_zero_le (show 0 ≤ y by omega)
      have HPT := hid_intro (fun w' (hb : Below w.heap.size w w') (p : Nat) (hp : p ≤ 1114111) => point_any p ⟨clsT.toArray⟩ w' (HX.out.below hb) (by decide) hp)
      have HAC : Hid (a ≤ 1114111 ∧ c ≤ 1114111) := hid_intro (by omega)
      have hA : (a : Int) ≤ 1114111 := by omega
      have hC : (c : Int) ≤ 1114111 := by omega
      clear hcell hwf hc hcm x0 x2 hsz
      go_wp2_with fail
      refine (HPT.out _ (vb_a HL.out _) a HAC.out.1).mono ?_; rintro r w1 ⟨rfl, hb1⟩
      have HR1 := hid_intro ((BkR.new wr a c).bel hb1)
      have HX1 := hid_intro ((HB.out.below (vb_a (Below.refl _ _) _)).below hb1)
      have HB1 := hid_intro (vb_t (vb_a HL.out _) hb1)
      have HS1 : Hid (wr.heap.size < w1.heap.size) := hid_intro (HR1.out.bk.lt)
      clear hb1
      go_wp2_with fail
      refine (wstrx w.heap.size _ (pointL a clsT) w1 HX1.out (by have := HSZ.out; have := pointL_sz a HAC.out.1 clsT; omega)).mono ?_; rintro r w2 ⟨rfl, hx2, hb2, ho2⟩
      have HR2 := hid_intro (HR1.out.oth ho2 (by have := HS.out; omega))
      have HX2 := hid_intro hx2
      have HB2 := hid_intro (HB1.out.trans hb2)
      have HS2 : Hid (wr.heap.size < w2.heap.size) := hid_intro (HR2.out.bk.lt)
      obtain ⟨c0, c1⟩ := HR2.out.bk.c2
      clear hx2 hb2 ho2
      by_cases hac : a = c
      · subst hac
        have e1 : ¬ (a : Int) + 1 < (a : Int) := by omega
        have e2 : ¬ (a : Int) < (a : Int) := by omega
        have HI : Hid (itmL a a = pointL a clsT) := hid_intro (by unfold itmL; rw [if_neg (by omega), if_neg (by omega)]; simp)
        go_wp2_with fail
        go_roundg (l.length - (k + 1))
        case measure => omega
        case rel => exact ⟨k + 1, hlt, rfl, by simp, hid_intro (by rw [HT.out]; show BX _ (_ ++ itmL a a) _; rw [HI.out]; exact HX2.out), hid_intro HB2.out, hid_intro (by have := HS2.out; have := HS.out; omega)⟩
      · have hlt2 : (a : Int) < (c : Int) := by omega
        by_cases hac1 : a + 1 = c
        · have e1 : ¬ (a : Int) + 1 < (c : Int) := by omega
          have HI : Hid (itmL a c = pointL a clsT ++ pointL c clsT) := hid_intro (by unfold itmL; rw [if_neg (by omega), if_pos (by omega)]; simp)
          clear hac hac1
          go_wp2_with fail
          refine (HPT.out w2 HB2.out c HAC.out.2).mono ?_; rintro r w3 ⟨rfl, hb3⟩
          have HX3 := hid_intro (HX2.out.below hb3)
          have HB3 := hid_intro (vb_t HB2.out hb3)
          have HS3 : Hid (wr.heap.size < w3.heap.size) := hid_intro (by have := HS2.out; have := hb3.size; omega)
          clear hb3
          go_wp2_with fail
          refine (wstrx w.heap.size _ (pointL c clsT) w3 HX3.out (by have := HSZ.out; have := pointL_sz a HAC.out.1 clsT; have := pointL_sz c HAC.out.2 clsT; rw [List.length_append]; omega)).mono ?_; rintro r w4 ⟨rfl, hx4, hb4, ho4⟩
          have HX4 := hid_intro hx4
          have HB4 := hid_intro (HB3.out.trans hb4)
          have HS4 : Hid (wr.heap.size < w4.heap.size) := hid_intro (by have := HS3.out; have := hb4.size; omega)
          clear hx4 hb4 ho4
          go_wp2_with fail
          go_roundg (l.length - (k + 1))
          case measure => omega
          case rel => exact ⟨k + 1, hlt, rfl, by simp, hid_intro (by rw [HT.out]; show BX _ (_ ++ itmL a c) _; rw [HI.out, ← List.append_assoc]; exact HX4.out), hid_intro HB4.out, hid_intro (by have := HS4.out; have := HS.out; omega)⟩
        · have e1 : (a : Int) + 1 < (c : Int) := by omega
          have HI : Hid (itmL a c = pointL a clsT ++ [45] ++ pointL c clsT) := hid_intro (by unfold itmL; rw [if_pos (by omega), if_pos (by omega)])
          clear hac hac1
          go_wp2_with fail
          refine (wstrx w.heap.size _ [45] w2 HX2.out (by have := HSZ.out; have := pointL_sz a HAC.out.1 clsT; rw [List.length_append]; simp; omega)).mono ?_; rintro r w5 ⟨rfl, hx5, hb5, ho5⟩
          have HR5 := hid_intro (HR2.out.oth ho5 (by have := HS.out; omega))
          have HX5 := hid_intro hx5
          have HB5 := hid_intro (HB2.out.trans hb5)
          have HS5 : Hid (wr.heap.size < w5.heap.size) := hid_intro (HR5.out.bk.lt)
          obtain ⟨d0, d1⟩ := HR5.out.bk.c2
          clear hx5 hb5 ho5
          go_wp2_with fail
          refine (HPT.out w5 HB5.out c HAC.out.2).mono ?_; rintro r w3 ⟨rfl, hb3⟩
          have HX3 := hid_intro (HX5.out.below hb3)
          have HB3 := hid_intro (vb_t HB5.out hb3)
          have HS3 : Hid (wr.heap.size < w3.heap.size) := hid_intro (by have := HS5.out; have := hb3.size; omega)
          clear hb3
          go_wp2_with fail
          refine (wstrx w.heap.size _ (pointL c clsT) w3 HX3.out (by have := HSZ.out; have := pointL_sz a HAC.out.1 clsT; have := pointL_sz c HAC.out.2 clsT; rw [List.length_append, List.length_append]; simp; omega)).mono ?_; rintro r w4 ⟨rfl, hx4, hb4, ho4⟩
          have HX4 := hid_intro hx4
          have HB4 := hid_intro (HB3.out.trans hb4)
          have HS4 : Hid (wr.heap.size < w4.heap.size) := hid_intro (by have := HS3.out; have := hb4.size; omega)
          clear hx4 hb4 ho4
          go_wp2_with fail
          go_roundg (l.length - (k + 1))
          case measure => omega
          case rel => exact ⟨k + 1, hlt, rfl, by simp, hid_intro (by rw [HT.out]; show BX _ (_ ++ itmL a c) _; rw [HI.out, ← List.append_assoc, ← List.append_assoc]; exact HX4.out), hid_intro HB4.out, hid_intro (by have := HS4.out; have := HS.out; omega)⟩
    · have hI : ¬ (k : Int) < (l.length : Int) := by omega
      have HE : Hid (itmsL (l.take k) = itmsL l) := hid_intro (by rw [List.take_of_length_le (by omega)])
      go_wp2_with fail
      refine (bstrx w.heap.size _ wr HB.out).mono ?_; rintro r w3 ⟨rfl, hb3⟩
      go_wp2_with fail
      rw [HP.out, HE.out]
      exact ⟨rfl, HL.out.trans hb3⟩
end Go.Proofs.YtppilokmgdpnnaaGreatDoor

namespace Go.Proofs.YtppilokmgdpnnaaGreatDoor
open Go.RowKit Go.Sort
attribute [local go_sem] setCell_drewN alloc_drewN

def surR (r : Int × Int) : Bool := !isPt r.1 || !isPt r.2
set_option maxHeartbeats 800000 in
theorem sur1_any (x y : Int) (w : World) (hX : TX w) :
    Calls Tryz.prog 115 #[.agg #[.int .i64 x, .int .i64 y]] w fun r w' => r = .returned (.bool (surR (x, y))) ∧ Below w.heap.size w w' := by
  obtain ⟨P, hP⟩ : ∃ P : Ending → World → Prop, P = fun r w' => r = .returned (.bool (surR (x, y))) ∧ Below w.heap.size w w' := ⟨_, rfl⟩
  rw [← hP]
  have HP := hid_intro hP
  have HI := hid_intro (fun w' (hb : Below w.heap.size w w') p => isPt_any p w' (hX.below hb).tab)
  have HK := hid_intro (Bk.new w #[.int .i64 x, .int .i64 y] 46)
  have HE : Hid (surR (x, y) = (!isPt x || !isPt y)) := hid_intro rfl
  clear hP hX
  cases hx : isPt x
  · go_enter Tryz.func115, Tryz.ntmps115
    go_wp2_with fail
    refine (HI.out _ (vb_a (Below.refl _ _) _) x).mono ?_; rintro r w1 ⟨rfl, hb1⟩
    rw [hx]
    go_wp2_with fail
    rw [HP.out, HE.out, hx]
    exact ⟨rfl, vb_t (vb_a (Below.refl _ _) _) hb1⟩
  · go_enter Tryz.func115, Tryz.ntmps115
    go_wp2_with fail
    refine (HI.out _ (vb_a (Below.refl _ _) _) x).mono ?_; rintro r w1 ⟨rfl, hb1⟩
    rw [hx]
    have HB := hid_intro (vb_t (vb_a (Below.refl _ _) _) hb1)
    obtain ⟨c0, c1⟩ := (HK.out.bel hb1).c2
    go_wp2_with fail
    refine (HI.out _ HB.out y).mono ?_; rintro r w2 ⟨rfl, hb2⟩
    generalize hy : isPt y = q
    have HY := hid_intro hy
    clear hy
    go_wp2_with fail
    rw [HP.out, HE.out, hx, HY.out]
    exact ⟨rfl, vb_t HB.out hb2⟩
set_option maxRecDepth 100000 in
set_option maxHeartbeats 1600000 in
theorem idxf_any (l : List (Int × Int)) (v : Value) (w : World) (X : Nat → Prop) (hX : TX w) (hR : RI w X l v) (hl : l.length ≤ 1099511627776) :
    Calls Tryz.prog 132 #[v, .func (.func 115) #[] #[]] w fun r w' => (∃ i : Int, r = .returned (.int .i64 i) ∧ decide (0 ≤ i) = l.any surR ∧ -1 ≤ i ∧ i ≤ 1099511627776) ∧ Below w.heap.size w w' := by
  obtain ⟨P, hP⟩ : ∃ P : Ending → World → Prop, P = fun r w' => (∃ i : Int, r = .returned (.int .i64 i) ∧ decide (0 ≤ i) = l.any surR ∧ -1 ≤ i ∧ i ≤ 1099511627776) ∧ Below w.heap.size w w' := ⟨_, rfl⟩
  rw [← hP]
  have HP := hid_intro hP
  have HX := hid_intro hX
  obtain ⟨ao, cap, rfl, hc, hcm, hwf, hlie⟩ := hR
  have hlI : (l.length : Int) ≤ 1099511627776 := by omega
  have HS := hid_intro (fun w' (hb : Below w.heap.size w w') x y => sur1_any x y w' (HX.out.below hb))
  clear hP hX hl hwf
  go_enter Tryz.func132, Tryz.ntmps132
  go_wp2_with fail
  go_loopg [8] l.length (fun m s8 wr => ∃ k : Nat, k ≤ l.length ∧ m = l.length - k ∧ s8 = .int .i64 (k : Int) ∧ Hid ((l.take k).any surR = false) ∧ Hid (Below w.heap.size w wr))
  case atStart => exact ⟨0, Nat.zero_le _, rfl, rfl, hid_intro (by simp), hid_intro (Below.refl _ _)⟩
  case round =>
    obtain ⟨k, hk, rfl, rfl, HA, HL⟩ := hrel
    by_cases hlt : k < l.length
    · rcases hlie with hlie | ⟨b, off, rfl, _, hcell⟩
      · subst hlie; simp at hlt
      have q0 := (HL.out.cell (p := ⟨b, off + k * 2, none⟩) (World.block_lt_of_cell? w _ (hcell k hlt).1)).trans (hcell k hlt).1
      have q1 := (HL.out.cell (p := ⟨b, off + k * 2 + 1, none⟩) (World.block_lt_of_cell? w _ (hcell k hlt).2)).trans (hcell k hlt).2
      have hI : (k : Int) < (l.length : Int) := by omega
      have HT : Hid ((l.take (k + 1)).any surR = surR (ra l k)) := hid_intro (by rw [List.take_succ_eq_append_getElem hlt, List.any_append, HA.out, ra_get hlt]; simp)
      have HM := hid_intro (ra_mem hlt)
      generalize ra l k = rr at *
      obtain ⟨x, y⟩ := rr
      simp only at q0 q1
      clear hcell hc hcm
      go_wp2_with fail
      refine (HS.out wr HL.out x y).mono ?_; rintro r w1 ⟨rfl, hb1⟩
      have HB1 := hid_intro (vb_t HL.out hb1)
      cases hq : surR (x, y)
      · rw [hq] at HT
        clear hb1 hq
        go_wp2_with fail
        go_roundg (l.length - (k + 1))
        case measure => omega
        case rel => exact ⟨k + 1, hlt, rfl, by simp, HT, HB1⟩
      · have HY : Hid (l.any surR = true) := hid_intro (List.any_eq_true.2 ⟨_, HM.out, hq⟩)
        clear hb1 hq
        go_wp2_with fail
        rw [HP.out]
        exact ⟨⟨k, rfl, by rw [HY.out]; simp, by omega, by omega⟩, HB1.out⟩
    · have hI : ¬ (k : Int) < (l.length : Int) := by omega
      have HE : Hid (l.any surR = false) := hid_intro (by rw [← HA.out, List.take_of_length_le (by omega)])
      go_wp2_with fail
      rw [HP.out]
      exact ⟨⟨-1, rfl, by rw [HE.out]; rfl, by omega, by omega⟩, HL.out⟩
set_option maxHeartbeats 800000 in
theorem conf_any (l : List (Int × Int)) (v : Value) (w : World) (X : Nat → Prop) (hX : TX w) (hR : RI w X l v) (hl : l.length ≤ 1099511627776) :
    Calls Tryz.prog 114 #[v, .func (.func 115) #[] #[]] w fun r w' => r = .returned (.bool (l.any surR)) ∧ Below w.heap.size w w' := by
  obtain ⟨P, hP⟩ : ∃ P : Ending → World → Prop, P = fun r w' => r = .returned (.bool (l.any surR)) ∧ Below w.heap.size w w' := ⟨_, rfl⟩
  rw [← hP]
  have HP := hid_intro hP
  have h := idxf_any l v w X hX hR hl
  clear hX hR hl hP
  go_enter Tryz.func114, Tryz.ntmps114
  go_wp2_with fail
  refine h.mono ?_; rintro r w1 ⟨⟨i, rfl, hi, i1, i2⟩, hb1⟩
  have HI := hid_intro hi
  clear hi h
  by_cases h0 : 0 ≤ i
  · have HD := hid_intro (decide_eq_true h0)
    go_wp2_with fail
    rw [HP.out, ← HI.out, HD.out]
    exact ⟨rfl, hb1⟩
  · have HD := hid_intro (decide_eq_false h0)
    go_wp2_with fail
    rw [HP.out, ← HI.out, HD.out]
    exact ⟨rfl, hb1⟩
set_option maxHeartbeats 800000 in
theorem ends_any (l : List (Int × Int)) (v : Value) (w : World) (X : Nat → Prop) (hX : TX w) (hR : RI w X l v) (hl : l.length ≤ 1099511627776) :
    Calls Tryz.prog 91 #[v] w fun r w' => r = .returned (.bool (l.any surR)) ∧ Below w.heap.size w w' := by
  have h := conf_any l v w X hX hR hl
  clear hX hR hl
  go_enter Tryz.func91, Tryz.ntmps91
  go_wp2_with fail
  refine h.mono ?_; rintro r w1 ⟨rfl, hb1⟩
  go_wp2_with fail
  go_ret
  exact ⟨rfl, hb1⟩
end Go.Proofs.YtppilokmgdpnnaaGreatDoor
