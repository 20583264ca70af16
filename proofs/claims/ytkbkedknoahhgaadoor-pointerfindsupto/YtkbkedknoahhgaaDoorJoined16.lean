/-
  What pointer.All answers at an array of one true: what heads asks. Conditions: the value lies in memory; the library's table of powers of ten as it is laid.
-/
import Derived.Test.YtkbkedknoahhgaaDoorJoined15
import Derived.Deep.RegionHeld3
namespace Go.Proofs.YtkbkedknoahhgaaDoor
open Go.RowKit
attribute [local go_sem] setCell_drewN alloc_drewN

/-- A block of a true. -/
def LA (w : World) (b : Nat) : Prop := ∀ o, w.cell? ⟨b, o, none⟩ = #[Value.int .i64 2, .bool false, .string ⟨#[]⟩, .int .i64 0, .string ⟨#[]⟩, .slice none 0 0, .slice none 0 0][o]?
theorem LA.lf {w : World} {b : Nat} (h : LA w b) : LF w b := ⟨h 0, h 1, h 2, h 3, h 4, h 5, h 6⟩
theorem LA.below {w w' : World} {b : Nat} (h : LA w b) (hb : Below w.heap.size w w') : LA w' b := fun o => by
  rw [hb.cell (p := ⟨b, o, none⟩) (World.block_lt_of_cell? w ⟨b, 0, none⟩ h.lf.c0)]; exact h o
theorem keepC {W w' : World} {cs : Array Value} {t : TypeId} (h : Below (W.alloc (.cells cs t)).heap.size (W.alloc (.cells cs t)) w') : ∀ o, w'.cell? ⟨W.heap.size, o, none⟩ = cs[o]? := fun o => by
  rw [h.cell (p := ⟨W.heap.size, o, none⟩) (by simp only [World.size_alloc]; omega)]
  simp [go_sem]

/-- 'append(x, y)', the place of y by its number, and what is kept. -/
theorem wpList_append_strb {w : World} {ops : Array Oper} {rest : List Oper} {o : Oper} {a : Act} {Q : Exit → Act → World → Prop} (hgd : o.guard = none) (s x : Operand)
    (ho : o.op = .call { callee := .builtin .append, args := #[s, x], argTypes := #[26, 26] }) (base : Nat) (v : Value) (xs : List (List UInt8)) (hs : a.eval s = v) (hown : OwnS w base v xs)
    (y : List UInt8) (bl : Nat) (hbl : w.heap.size = bl) (hx : a.eval x = .slice (some ⟨bl, 0, none⟩) 1 1) (hb : xs.length + 1 ≤ 8796093022207) (hbase : base ≤ w.heap.size)
    (h : ∀ v' w', OwnS w' base v' (xs ++ [y]) → Below base w w' → (∀ k, k < w.heap.size → v.ownBlock ≠ some k → w'.heap[k]? = w.heap[k]?) → wpList Tryd.prog ops Q rest (a.put o.dst v') w') : wpList Tryd.prog ops Q (o :: rest) a (w.alloc (.cells #[.string (bs y)] 9)) := by
  subst hbl
  obtain ⟨i0, hi, hz0, hz1, hz2⟩ := info_parts infoS
  refine wpList_append_own _ hgd s x 26 ho base 9 i0 (.string ⟨#[]⟩) 1 16 Tryd.underlying26 hi hz0 hz1 hz2 rfl (by decide) v xs.length (strs xs) hs (hown.alloc _) ⟨w.heap.size, 0, none⟩ 1 1 [.string (bs y)] hx rfl (cell_one_str w (bs y)) (fun u hu => by simp at hu; subst hu; rfl) (by unfold maxLen; omega) (by omega) (by simp; omega) ?_
  intro v' w' h1 h2 _
  refine h v' w' ?_ ?_ ?_
  · unfold OwnS
    rw [strs_snoc, List.length_append]
    exact h1
  · exact ((Below.refl _ _).alloc hbase _).grown h2 (by simp; omega) (fun j hj => (World.ownsRow.lt hown j hj).1)
  · intro k hk hne
    rw [h2.block k (by simp; omega) (fun e => hne e.symm), Below.heap_alloc _ _ _ hk]
theorem heap_new (w : World) (o : Obj) : (w.alloc o).heap[w.heap.size]? = some o := by
  show (w.heap.push o)[w.heap.size]? = some o
  simp
theorem C7.blk {w w' : World} {b : Nat} {x0 x1 x2 x3 x4 x5 x6 : Value} (h : C7 w b x0 x1 x2 x3 x4 x5 x6) (e : w'.heap[b]? = w.heap[b]?) : C7 w' b x0 x1 x2 x3 x4 x5 x6 := by
  have k : ∀ o, w'.cell? ⟨b, o, none⟩ = w.cell? ⟨b, o, none⟩ := fun o => World.cell?_of_block (w := w) e
  have f : ∀ o, w'.frozen? ⟨b, o, none⟩ = w.frozen? ⟨b, o, none⟩ := fun o => World.frozen?_of_block (w := w) e
  exact ⟨(k _).trans h.c0, (k _).trans h.c1, (k _).trans h.c2, (k _).trans h.c3, (k _).trans h.c4, (k _).trans h.c5, (k _).trans h.c6, (f _).trans h.z0, (f _).trans h.z1, (f _).trans h.z2, (f _).trans h.z3, (f _).trans h.z4, (f _).trans h.z5, (f _).trans h.z6⟩

set_option maxRecDepth 100000 in
set_option maxHeartbeats 400000 in
theorem size_lf (w : World) : Calls Tryd.prog 24 #[lfV] w fun r w' => r = .returned (.int .i64 1) ∧ Below w.heap.size w w' := by
  unfold lfV
  go_enter Tryd.func24, Tryd.ntmps24
  go_wp2_with fail
  refine wp_loop_rounds 1 ?_
  rw [rounds_succ]
  go_wp2
  go_ret
  exact ⟨rfl, bl_a (Below.refl _ _) _⟩
set_option maxRecDepth 100000 in
set_option maxHeartbeats 800000 in
theorem size_fv (b : Nat) (w : World) (hL : LF w b) : Calls Tryd.prog 24 #[fvV b] w fun r w' => r = .returned (.int .i64 2) ∧ Below w.heap.size w w' := by
  have hs := size_lf
  unfold lfV at hs
  unfold fvV
  obtain ⟨l0, l1, l2, l3, l4, l5, l6⟩ := hL.below (bl_a (Below.refl _ _) (.cells #[.int .i64 5, .bool false, .string ⟨#[]⟩, .int .i64 0, .string ⟨#[]⟩, .slice (some ⟨b, 0, none⟩) 1 1, .slice none 0 0] 28))
  go_enter Tryd.func24, Tryd.ntmps24
  go_wp2_with fail
  refine wp_loop_rounds 3 ?_
  rw [rounds_succ]
  go_wp2_with fail
  refine (hs _).mono ?_
  rintro r w1 ⟨rfl, hb1⟩
  clear hs l0 l1 l2 l3 l4 l5 l6
  go_wp2_with fail
  rw [rounds_succ]
  go_wp2
  go_ret
  exact ⟨rfl, bl_t (bl_a (Below.refl _ _) _) hb1⟩
set_option maxHeartbeats 400000 in
theorem elements_lf (w : World) : Calls Tryd.prog 40 #[lfV] w fun r w' => r = .returned (.int .i64 0) ∧ Below w.heap.size w w' := by
  unfold lfV
  go_enter Tryd.func40, Tryd.ntmps40
  go_wp2
  go_ret
  exact ⟨rfl, bl_a (Below.refl _ _) _⟩
set_option maxHeartbeats 400000 in
theorem elements_fv (b : Nat) (w : World) : Calls Tryd.prog 40 #[fvV b] w fun r w' => r = .returned (.int .i64 1) ∧ Below w.heap.size w w' := by
  unfold fvV
  go_enter Tryd.func40, Tryd.ntmps40
  go_wp2
  go_ret
  exact ⟨rfl, bl_a (Below.refl _ _) _⟩
set_option maxHeartbeats 400000 in
theorem partOf_fv (b : Nat) (w : World) (hT : Lib.TabIs Tryd.prog w "internal/strconv.uint64pow10" .u64 Lib.pow10Tab) : Calls Tryd.prog 42 #[fvV b, .int .i64 0] w fun r w' => r = .returned (.string ⟨#[48]⟩) ∧ Below w.heap.size w w' := by
  have hi : ∀ w', Below w.heap.size w w' → Calls Tryd.prog 22 #[.int .i64 0] w' fun e w2 => e = .returned (.string ⟨#[48]⟩) ∧ Below w'.heap.size w' w2 := fun w' hb => by
    refine (itoa_any 0 w' (by decide) (by decide) (tab_below hT hb)).mono ?_
    rintro e w2 ⟨rfl, h2⟩
    exact ⟨by rw [show Lib.itoa 0 = [48] by decide +kernel]; rfl, h2⟩
  unfold fvV
  go_enter Tryd.func42, Tryd.ntmps42
  go_wp2_with (go_at_call 22; refine (hi _ (bl_a (Below.refl _ _) _)).mono ?_; rintro r w1 ⟨rfl, hb1⟩)
  go_ret
  exact ⟨rfl, bl_t (bl_a (Below.refl _ _) _) hb1⟩
theorem text_one (w : World) : Calls Tryd.prog 41 #[.slice (some ⟨w.heap.size, 0, none⟩) 1 1] (w.alloc (.cells #[.string ⟨#[48]⟩] 9)) fun r w' => r = .returned (.string ⟨#[47, 48]⟩) ∧ Below w.heap.size w w' := by
  refine (text_any (.slice (some ⟨w.heap.size, 0, none⟩) 1 1) [[48]] _ (.inr ⟨w.heap.size, 0, 1, rfl, fun i hi => ?_⟩) (by decide)).mono ?_
  · have : i = 0 := by simpa using hi
    subst this
    rw [World.cell?_alloc_at _ _ _ _ (by simp)]; rfl
  · rintro r w' ⟨rfl, hb⟩
    exact ⟨by rw [show textL [[48]] = [47, 48] by decide +kernel]; rfl, bl_t (bl_a (Below.refl _ _) _) hb⟩

set_option maxRecDepth 100000 in
set_option maxHeartbeats 800000 in
theorem inner_lf (v : Value) (xs : List (List UInt8)) (at_ : List UInt8) (B : Nat) (w : World) (hO : OwnS w B v xs) (hB : B ≤ w.heap.size) (hl : xs.length ≤ 1000) :
    Calls Tryd.prog 23 #[v, .string (bs at_), lfV] w fun r w' => ∃ v', r = .returned v' ∧ OwnS w' B v' (xs ++ [at_]) ∧ Below B w w' ∧ ∀ k, k < w.heap.size → v.ownBlock ≠ some k → w'.heap[k]? = w.heap[k]? := by
  have he := elements_lf
  unfold lfV at he ⊢
  have hO1 : OwnS (w.alloc (.cells #[.int .i64 2, .bool false, .string ⟨#[]⟩, .int .i64 0, .string ⟨#[]⟩, .slice none 0 0, .slice none 0 0] 28)) B v xs := hO.alloc _
  have hC := C7.new w (.int .i64 2) (.bool false) (.string ⟨#[]⟩) (.int .i64 0) (.string ⟨#[]⟩) (.slice none 0 0) (.slice none 0 0) 28
  have hbW : Below w.heap.size w (w.alloc (.cells #[.int .i64 2, .bool false, .string ⟨#[]⟩, .int .i64 0, .string ⟨#[]⟩, .slice none 0 0, .slice none 0 0] 28)) := bl_a (Below.refl _ _) _
  have hsz : (w.alloc (.cells #[.int .i64 2, .bool false, .string ⟨#[]⟩, .int .i64 0, .string ⟨#[]⟩, .slice none 0 0, .slice none 0 0] 28)).heap.size = w.heap.size + 1 := by simp
  generalize hW : w.alloc (.cells #[.int .i64 2, .bool false, .string ⟨#[]⟩, .int .i64 0, .string ⟨#[]⟩, .slice none 0 0, .slice none 0 0] 28) = W at *
  go_enter Tryd.func23, Tryd.ntmps23
  go_wp2_with (at_builtin; refine wpList_append_strb rfl (.tmp 8) (.tmp 10) rfl B _ xs rfl hO1 at_ _ hsz rfl (by omega) (by omega) ?_)
  intro v' w1 hO' hb1 hk1
  have hne : v.ownBlock ≠ some w.heap.size := fun e => by have := (World.ownsRow.lt hO _ e).2; omega
  have hC1 := hC.blk (hk1 w.heap.size (by omega) hne)
  have hbel : Below B w w1 := (hbW.mono hB).trans hb1
  have HK : Hid (∀ k, k < w.heap.size → v.ownBlock ≠ some k → w1.heap[k]? = w.heap[k]?) := fun k hk hn => by rw [hk1 k (by omega) hn, hbW.block k hk]
  have hsz1 : w.heap.size ≤ w1.heap.size := Nat.le_of_lt (World.block_lt_of_cell? w1 _ hC1.c0)
  clear hO1 hO hk1 hb1 hC
  obtain ⟨a0, a1, a2, a3, a4, a5, a6, q0, q1, q2, q3, q4, q5, q6⟩ := hC1
  have hs1 : B ≤ w1.heap.size := Nat.le_trans hB hbel.size
  go_wp2_with fail
  refine (he _).mono ?_
  rintro r w2 ⟨rfl, hb2⟩
  clear he a0 a1 a2 a3 a4 a5 a6 q0 q1 q2 q3 q4 q5 q6
  go_wp2_with fail
  refine wp_loop_rounds 1 ?_
  rw [rounds_succ]
  go_wp2
  go_ret
  exact ⟨_, rfl, hO'.below hb2, hbel.trans (hb2.mono hs1), fun k hk hn => by rw [hb2.block k (Nat.lt_of_lt_of_le hk hsz1)]; exact HK.out k hk hn⟩

set_option maxRecDepth 100000 in
set_option maxHeartbeats 1600000 in
theorem inner_fv (b : Nat) (v : Value) (B : Nat) (w : World) (hO : OwnS w B v []) (hB : B ≤ w.heap.size) (hL : LA w b) (hbB : b < B) (hT : Lib.TabIs Tryd.prog w "internal/strconv.uint64pow10" .u64 Lib.pow10Tab) (hgB : 2 < B) :
    Calls Tryd.prog 23 #[v, .string ⟨#[]⟩, fvV b] w fun r w' => ∃ v', r = .returned v' ∧ OwnS w' B v' [[], [47, 48]] ∧ Below B w w' := by
  have he := elements_fv b
  have hpo := partOf_fv b
  unfold fvV at he hpo ⊢
  have hO1 : OwnS (w.alloc (.cells #[.int .i64 5, .bool false, .string ⟨#[]⟩, .int .i64 0, .string ⟨#[]⟩, .slice (some ⟨b, 0, none⟩) 1 1, .slice none 0 0] 28)) B v [] := hO.alloc _
  have hC := C7.new w (.int .i64 5) (.bool false) (.string ⟨#[]⟩) (.int .i64 0) (.string ⟨#[]⟩) (.slice (some ⟨b, 0, none⟩) 1 1) (.slice none 0 0) 28
  have hKC := keepC (W := w) (cs := #[.int .i64 5, .bool false, .string ⟨#[]⟩, .int .i64 0, .string ⟨#[]⟩, .slice (some ⟨b, 0, none⟩) 1 1, .slice none 0 0]) (t := 28) (Below.refl _ _)
  have hbW : Below w.heap.size w (w.alloc (.cells #[.int .i64 5, .bool false, .string ⟨#[]⟩, .int .i64 0, .string ⟨#[]⟩, .slice (some ⟨b, 0, none⟩) 1 1, .slice none 0 0] 28)) := bl_a (Below.refl _ _) _
  have hsz : (w.alloc (.cells #[.int .i64 5, .bool false, .string ⟨#[]⟩, .int .i64 0, .string ⟨#[]⟩, .slice (some ⟨b, 0, none⟩) 1 1, .slice none 0 0] 28)).heap.size = w.heap.size + 1 := by simp
  generalize hW : w.alloc (.cells #[.int .i64 5, .bool false, .string ⟨#[]⟩, .int .i64 0, .string ⟨#[]⟩, .slice (some ⟨b, 0, none⟩) 1 1, .slice none 0 0] 28) = W at *
  go_enter Tryd.func23, Tryd.ntmps23
  go_wp2_with (at_builtin; refine wpList_append_strb rfl (.tmp 8) (.tmp 10) rfl B _ [] rfl hO1 [] _ hsz rfl (by simp) (by omega) ?_)
  intro v' w1 hO' hb1 hk1
  have hne : v.ownBlock ≠ some w.heap.size := fun e => by have := (World.ownsRow.lt hO _ e).2; omega
  have hC1 := hC.blk (hk1 w.heap.size (by omega) hne)
  have hK1 : ∀ o, w1.cell? ⟨w.heap.size, o, none⟩ = #[Value.int .i64 5, .bool false, .string ⟨#[]⟩, .int .i64 0, .string ⟨#[]⟩, .slice (some ⟨b, 0, none⟩) 1 1, .slice none 0 0][o]? := fun o => (World.cell?_of_block (w := W) (hk1 w.heap.size (by omega) hne)).trans (hKC o)
  have hKB : w1.heap[w.heap.size]? = some (.cells #[.int .i64 5, .bool false, .string ⟨#[]⟩, .int .i64 0, .string ⟨#[]⟩, .slice (some ⟨b, 0, none⟩) 1 1, .slice none 0 0] 28) := (hk1 w.heap.size (by omega) hne).trans (by rw [← hW]; exact heap_new w _)
  have hne2 : v'.ownBlock ≠ some w.heap.size := fun e => by
    rcases hO'.2 with ⟨h1, _⟩ | ⟨g, cap, cur, rfl, _, hh, _⟩
    · rw [h1] at e; cases e
    · have : g = w.heap.size := by simpa [Value.ownBlock] using e
      subst this
      rw [hh] at hKB
      simp at hKB
  have hne3 : v'.ownBlock ≠ some b := fun e => by have := (World.ownsRow.lt hO' _ e).1; omega
  have hbel : Below B w w1 := (hbW.mono hB).trans hb1
  have hL1 : LA w1 b := fun o => by rw [hbel.cell (p := ⟨b, o, none⟩) hbB]; exact hL o
  have hT1 : Lib.TabIs Tryd.prog w1 "internal/strconv.uint64pow10" .u64 Lib.pow10Tab := by
    have hg : Tryd.prog.globalNamed "internal/strconv.uint64pow10" = some 2 := by kernel_rfl
    unfold Lib.TabIs World.var? at hT ⊢
    simp only [hg, Option.bind_some] at hT ⊢
    rw [hbel.block _ hgB]
    exact hT
  clear hO1 hO hk1 hb1 hC hKC
  obtain ⟨a0, a1, a2, a3, a4, a5, a6, q0, q1, q2, q3, q4, q5, q6⟩ := hC1
  have hs1 : B ≤ w1.heap.size := Nat.le_trans hB hbel.size
  have hlt1 : w.heap.size < w1.heap.size := World.block_lt_of_cell? w1 _ a0
  go_wp2_with fail
  refine (he _).mono ?_
  rintro r w2 ⟨rfl, hb2⟩
  clear he a0 a1 a2 a3 a4 a5 a6 q0 q1 q2 q3 q4 q5 q6
  have hlt2 : w.heap.size < w2.heap.size := Nat.lt_of_lt_of_le hlt1 hb2.size
  have HS : Hid (∀ w', Below w2.heap.size w2 w' → (∀ o, w'.cell? ⟨w.heap.size, o, none⟩ = #[Value.int .i64 5, .bool false, .string ⟨#[]⟩, .int .i64 0, .string ⟨#[]⟩, .slice (some ⟨b, 0, none⟩) 1 1, .slice none 0 0][o]?) ∧ (∀ o, w'.cell? ⟨b, o, none⟩ = #[Value.int .i64 2, .bool false, .string ⟨#[]⟩, .int .i64 0, .string ⟨#[]⟩, .slice none 0 0, .slice none 0 0][o]?)) := fun w' hb =>
    ⟨fun o => by rw [hb.cell (p := ⟨w.heap.size, o, none⟩) hlt2, hb2.cell (p := ⟨w.heap.size, o, none⟩) hlt1]; exact hK1 o, (hL1.below hb2).below hb⟩
  have HP : Hid (∀ w', Below w2.heap.size w2 w' → Calls Tryd.prog 42 #[.agg #[.int .i64 5, .bool false, .string ⟨#[]⟩, .int .i64 0, .string ⟨#[]⟩, .slice (some ⟨b, 0, none⟩) 1 1, .slice none 0 0], .int .i64 0] w' fun r w3 => r = .returned (.string ⟨#[48]⟩) ∧ Below w'.heap.size w' w3) := fun w' hb => hpo w' (tab_below (tab_below hT1 hb2) hb)
  have HI : Hid (∀ w', Below w2.heap.size w2 w' → Calls Tryd.prog 23 #[v', .string ⟨#[47, 48]⟩, .agg #[.int .i64 2, .bool false, .string ⟨#[]⟩, .int .i64 0, .string ⟨#[]⟩, .slice none 0 0, .slice none 0 0]] w' fun r w3 => ∃ v2, r = .returned v2 ∧ OwnS w3 B v2 [[], [47, 48]] ∧ Below B w' w3 ∧ ∀ k, k < w'.heap.size → v'.ownBlock ≠ some k → w3.heap[k]? = w'.heap[k]?) := fun w' hb => inner_lf v' [[]] [47, 48] B w' ((hO'.below hb2).below hb) (Nat.le_trans hs1 (Nat.le_trans hb2.size hb.size)) (by decide)
  have hbel2 : Below B w w2 := hbel.trans (hb2.mono hs1)
  have HS2 : Hid (∀ (w' w3 : World), Below w2.heap.size w2 w' → (∀ k, k < w'.heap.size → v'.ownBlock ≠ some k → w3.heap[k]? = w'.heap[k]?) → (∀ o, w3.cell? ⟨w.heap.size, o, none⟩ = #[Value.int .i64 5, .bool false, .string ⟨#[]⟩, .int .i64 0, .string ⟨#[]⟩, .slice (some ⟨b, 0, none⟩) 1 1, .slice none 0 0][o]?) ∧ (∀ o, w3.cell? ⟨b, o, none⟩ = #[Value.int .i64 2, .bool false, .string ⟨#[]⟩, .int .i64 0, .string ⟨#[]⟩, .slice none 0 0, .slice none 0 0][o]?)) := fun w' w3 hb hk => by
    have h1 := HS.out w' hb
    have hbl : b < w'.heap.size := World.block_lt_of_cell? w' ⟨b, 0, none⟩ (h1.2 0)
    exact ⟨fun o => (World.cell?_of_block (w := w') (hk w.heap.size (Nat.lt_of_lt_of_le hlt2 hb.size) hne2)).trans (h1.1 o), fun o => (World.cell?_of_block (w := w') (w' := w3) (hk b hbl hne3)).trans (h1.2 o)⟩
  have HX : Hid (∀ (w' w3 : World), Below w2.heap.size w2 w' → Below B w' w3 → Below B w w3) := fun w' w3 h1 h2 => (hbel2.trans (h1.mono (Nat.le_trans hs1 hb2.size))).trans h2
  clear hpo hT hT1 hL hL1 hK1 hbel hbel2 hO' hb2 hbW hlt1 hlt2 hsz hs1 hne hbB hgB hne2 hne3 hKB
  go_wp2_with fail
  refine wp_loop_rounds 3 ?_
  rw [rounds_succ]
  go_wp2_with fail
  go_region_held3 (fun w' => (∀ o, w'.cell? ⟨w.heap.size, o, none⟩ = #[Value.int .i64 5, .bool false, .string ⟨#[]⟩, .int .i64 0, .string ⟨#[]⟩, .slice (some ⟨b, 0, none⟩) 1 1, .slice none 0 0][o]?) ∧ (∀ o, w'.cell? ⟨b, o, none⟩ = #[Value.int .i64 2, .bool false, .string ⟨#[]⟩, .int .i64 0, .string ⟨#[]⟩, .slice none 0 0, .slice none 0 0][o]?)) (first | (refine HS2.out _ _ ?_ hk5; with_reducible repeat (first | exact Below.refl _ _ | refine bl_t ?_ hb4 | refine bl_t ?_ hb3 | refine bl_d ?_)) | (refine HS.out _ ?_; with_reducible repeat (first | exact Below.refl _ _ | refine bl_t ?_ hb4 | refine bl_t ?_ hb3 | refine bl_d ?_ | refine bl_a ?_ _)) | fail) (first | (go_at_call 42; refine (HP.out _ ?_).mono ?_; (with_reducible repeat (first | exact Below.refl _ _ | refine bl_d ?_)); rintro r w3 ⟨rfl, hb3⟩) | (go_at_call 41; refine (text_one _).mono ?_; rintro r w4 ⟨rfl, hb4⟩) | (go_at_call 23; refine (HI.out _ ?_).mono ?_; (with_reducible repeat (first | exact Below.refl _ _ | refine bl_t ?_ hb4 | refine bl_t ?_ hb3 | refine bl_d ?_)); rintro r w5 ⟨v2, rfl, hO5, hb5, hk5⟩) | fail)
  all_goals
    have hfin := HX.out _ _ (by with_reducible repeat (first | exact Below.refl _ _ | refine bl_t ?_ hb4 | refine bl_t ?_ hb3 | refine bl_d ?_)) hb5
    clear HS HP HI HS2 HX hk5 hb5
    go_wp2_with fail
    rw [rounds_succ]
    go_wp2
    go_ret
    exact ⟨_, rfl, hO5, (by with_reducible repeat (first | exact hfin | refine bl_d ?_))⟩

set_option maxRecDepth 100000 in
set_option maxHeartbeats 1600000 in
theorem all_fv (b : Nat) (w : World) (hL : LA w b) (hT : Lib.TabIs Tryd.prog w "internal/strconv.uint64pow10" .u64 Lib.pow10Tab) :
    Calls Tryd.prog 12 #[fvV b] w fun r w' => ∃ a c, r = .returned (.slice a 2 c) ∧ Below w.heap.size w w' := by
  have hsz : ∀ w', Below w.heap.size w w' → Calls Tryd.prog 24 #[fvV b] w' fun r w2 => r = .returned (.int .i64 2) ∧ Below w'.heap.size w' w2 := fun w' hb => size_fv b w' (hL.below hb).lf
  have hin : ∀ w', Below w.heap.size w w' → Calls Tryd.prog 23 #[.slice (some ⟨w'.heap.size, 0, none⟩) 0 2, .string ⟨#[]⟩, fvV b] (w'.alloc (.cells (madeCells #[.string ⟨#[]⟩] 2) 9)) fun r w2 => ∃ v', r = .returned v' ∧ OwnS w2 w'.heap.size v' [[], [47, 48]] ∧ Below w'.heap.size (w'.alloc (.cells (madeCells #[.string ⟨#[]⟩] 2) 9)) w2 := fun w' hb => by
    have hg : Tryd.prog.globalNamed "internal/strconv.uint64pow10" = some 2 := by kernel_rfl
    have hlt : 2 < w.heap.size := World.block_lt_of_cell? w _ (hT.cell hg 0 (by decide))
    have hbl : b < w.heap.size := World.block_lt_of_cell? w ⟨b, 0, none⟩ (hL 0)
    have hb' : Below w.heap.size w (w'.alloc (.cells (madeCells #[.string ⟨#[]⟩] 2) 9)) := bl_a hb _
    exact inner_fv b _ w'.heap.size _ (make_ownS w' 2 (by decide)) (by simp) (hL.below hb') (Nat.lt_of_lt_of_le hbl hb.size) (tab_below hT hb') (Nat.lt_of_lt_of_le hlt hb.size)
  have hmk : ∀ w', (Instr.makeSlice 26 (.int .i64 0) (.int .i64 2)).run Tryd.prog w' = .ok (.slice (some ⟨w'.heap.size, 0, none⟩) 0 2) (w'.alloc (.cells (madeCells #[.string ⟨#[]⟩] 2) 9)) := fun w' => make_strs w' 2 (by decide)
  unfold fvV at hsz hin ⊢
  have hKC := fun (w' : World) => keepC (w' := w') (W := w) (cs := #[.int .i64 5, .bool false, .string ⟨#[]⟩, .int .i64 0, .string ⟨#[]⟩, .slice (some ⟨b, 0, none⟩) 1 1, .slice none 0 0]) (t := 28)
  have hsW : (w.alloc (.cells #[.int .i64 5, .bool false, .string ⟨#[]⟩, .int .i64 0, .string ⟨#[]⟩, .slice (some ⟨b, 0, none⟩) 1 1, .slice none 0 0] 28)).heap.size = w.heap.size + 1 := by simp
  have hbW : Below w.heap.size w (w.alloc (.cells #[.int .i64 5, .bool false, .string ⟨#[]⟩, .int .i64 0, .string ⟨#[]⟩, .slice (some ⟨b, 0, none⟩) 1 1, .slice none 0 0] 28)) := bl_a (Below.refl _ _) _
  generalize hW : w.alloc (.cells #[.int .i64 5, .bool false, .string ⟨#[]⟩, .int .i64 0, .string ⟨#[]⟩, .slice (some ⟨b, 0, none⟩) 1 1, .slice none 0 0] 28) = W at *
  have HS : Hid (∀ w', Below W.heap.size W w' → ∀ o, w'.cell? ⟨w.heap.size, o, none⟩ = #[Value.int .i64 5, .bool false, .string ⟨#[]⟩, .int .i64 0, .string ⟨#[]⟩, .slice (some ⟨b, 0, none⟩) 1 1, .slice none 0 0][o]?) := hKC
  have HZ : Hid (∀ w', Below W.heap.size W w' → Calls Tryd.prog 24 #[.agg #[.int .i64 5, .bool false, .string ⟨#[]⟩, .int .i64 0, .string ⟨#[]⟩, .slice (some ⟨b, 0, none⟩) 1 1, .slice none 0 0]] w' fun r w2 => r = .returned (.int .i64 2) ∧ Below w'.heap.size w' w2) := fun w' hb => hsz w' (bl_t hbW hb)
  have HI : Hid (∀ w', Below W.heap.size W w' → Calls Tryd.prog 23 #[.slice (some ⟨w'.heap.size, 0, none⟩) 0 2, .string ⟨#[]⟩, .agg #[.int .i64 5, .bool false, .string ⟨#[]⟩, .int .i64 0, .string ⟨#[]⟩, .slice (some ⟨b, 0, none⟩) 1 1, .slice none 0 0]] (w'.alloc (.cells (madeCells #[.string ⟨#[]⟩] 2) 9)) fun r w2 => ∃ v', r = .returned v' ∧ OwnS w2 w'.heap.size v' [[], [47, 48]] ∧ Below w'.heap.size w' w2) := fun w' hb => (hin w' (bl_t hbW hb)).mono fun r w2 ⟨v', h1, h2, h3⟩ => ⟨v', h1, h2, (bl_a (Below.refl _ _) _).trans h3⟩
  have HX : Hid (∀ w', Below W.heap.size W w' → Below w.heap.size w w') := fun w' h => bl_t hbW h
  clear hKC hsz hin hbW hsW hL hT
  go_enter Tryd.func12, Tryd.ntmps12
  go_wp2_with fail
  go_region_held3 (fun w' => ∀ o, w'.cell? ⟨w.heap.size, o, none⟩ = #[Value.int .i64 5, .bool false, .string ⟨#[]⟩, .int .i64 0, .string ⟨#[]⟩, .slice (some ⟨b, 0, none⟩) 1 1, .slice none 0 0][o]?) (first | (refine HS.out _ ?_; with_reducible repeat (first | exact Below.refl _ _ | refine bl_t ?_ hb4 | refine bl_t ?_ hb3 | refine bl_d ?_ | refine bl_a ?_ _)) | fail) (first | (go_at_call 24; refine (HZ.out _ ?_).mono ?_; (with_reducible repeat (first | exact Below.refl _ _ | refine bl_d ?_)); rintro r w3 ⟨rfl, hb3⟩) | (go_at_call 23; refine (HI.out _ ?_).mono ?_; (with_reducible repeat (first | exact Below.refl _ _ | refine bl_t ?_ hb3 | refine bl_d ?_)); rintro r w4 ⟨v2, rfl, hO4, hb4⟩) | fail)
  all_goals
    have hfin := HX.out w4 (by with_reducible repeat (first | exact Below.refl _ _ | refine bl_t ?_ hb4 | refine bl_t ?_ hb3 | refine bl_d ?_))
    obtain ⟨aa, cc, hvv⟩ := (SRow.of_own hO4).shape
    subst hvv
    clear HS HZ HI HX
    go_wp2
    go_ret
    exact ⟨_, _, rfl, (by with_reducible repeat (first | exact hfin | refine bl_d ?_))⟩
end Go.Proofs.YtkbkedknoahhgaaDoor
