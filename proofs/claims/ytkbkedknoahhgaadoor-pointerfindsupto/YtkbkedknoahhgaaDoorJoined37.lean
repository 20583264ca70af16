/-
  All pointers of a value that may be, as the program makes them. Conditions: nothing in the value is longer than 2^20, at most 2^20 values.
-/
import Derived.Test.YtkbkedknoahhgaaDoorJoined36
import Derived.Test.YtkbkedknoahhgaaDoorJoined16
import Derived.Deep.AppendLies
import Derived.Lib.ItoaLen
namespace Go.Proofs.YtkbkedknoahhgaaDoor
open Go.RowKit
attribute [local go_sem] setCell_drewN alloc_drewN

/-- Nothing in it is longer than N. -/
inductive Bd7 (N : Nat) : JV → Prop
  | mk {k : Int} {n : Bool} {g : ByteArray} {e : Int} {t : ByteArray} {l : List JV} {ks : List ByteArray} (h1 : l.length ≤ N) (h2 : ks.length ≤ N) (h5 : ∀ s ∈ ks, s.size ≤ N) (h6 : ∀ c ∈ l, Bd7 N c) : Bd7 N (.mk k n g e t l ks)
/-- What one call does to a row that grows. -/
structure Stp7 (B : Nat) (w : World) (v : Value) (w' : World) (v' : Value) : Prop where
  bel : Below B w w'
  kept : ∀ k, k < w.heap.size → v.ownBlock ≠ some k → w'.heap[k]? = w.heap[k]?
  loc : v'.ownBlock = v.ownBlock ∨ ∃ b, v'.ownBlock = some b ∧ w.heap.size ≤ b
theorem Stp7.ne {B : Nat} {w w' : World} {v v' : Value} (h : Stp7 B w v w' v') {k : Nat} (hk : k < w.heap.size) (hn : v.ownBlock ≠ some k) : v'.ownBlock ≠ some k := by
  rcases h.loc with e | ⟨b, e, hb⟩
  · rw [e]; exact hn
  · rw [e]; intro h2; injection h2 with h2; omega
theorem Stp7.trans {B : Nat} {w w1 w2 : World} {v v1 v2 : Value} (h : Stp7 B w v w1 v1) (h' : Stp7 B w1 v1 w2 v2) : Stp7 B w v w2 v2 := by
  refine ⟨h.bel.trans h'.bel, fun k hk hn => ?_, ?_⟩
  · rw [h'.kept k (Nat.lt_of_lt_of_le hk h.bel.size) (h.ne hk hn), h.kept k hk hn]
  · rcases h'.loc with e | ⟨b, e, hb⟩
    · rw [e]; exact h.loc
    · exact Or.inr ⟨b, e, Nat.le_trans h.bel.size hb⟩
theorem Stp7.of_below {B : Nat} {w w' : World} (v : Value) (hB : B ≤ w.heap.size) (h : Below w.heap.size w w') : Stp7 B w v w' v := ⟨h.mono hB, fun k hk _ => h.block k hk, Or.inl rfl⟩
theorem tab_B {w w' : World} {B : Nat} (hT : Lib.TabIs Tryd.prog w "internal/strconv.uint64pow10" .u64 Lib.pow10Tab) (hb : Below B w w') (hg : 2 < B) : Lib.TabIs Tryd.prog w' "internal/strconv.uint64pow10" .u64 Lib.pow10Tab := by
  have hg' : Tryd.prog.globalNamed "internal/strconv.uint64pow10" = some 2 := by kernel_rfl
  unfold Lib.TabIs World.var? at hT ⊢
  simp only [hg', Option.bind_some] at hT ⊢
  rw [hb.block _ hg]
  exact hT
/-- A text more in a row, and where the row lies then. -/
theorem wpList_append_sl {w : World} {ops : Array Oper} {rest : List Oper} {o : Oper} {a : Act} {Q : Exit → Act → World → Prop} (hgd : o.guard = none) (s x : Operand)
    (ho : o.op = .call { callee := .builtin .append, args := #[s, x], argTypes := #[26, 26] }) (B : Nat) (v : Value) (xs : List (List UInt8)) (hs : a.eval s = v) (hown : OwnS w B v xs) (hB : B ≤ w.heap.size) (hn : xs.length ≤ 1099511627776) (y : List UInt8)
    (t : Nat) (ht : w.heap.size = t) (hx : a.eval x = .slice (some ⟨t, 0, none⟩) 1 1)
    (h : ∀ g cap w', OwnS w' B (.slice (some ⟨g, 0, none⟩) (xs.length + 1) cap) (xs ++ [y]) → Stp7 B w v w' (.slice (some ⟨g, 0, none⟩) (xs.length + 1) cap) → wpList Tryd.prog ops Q rest (a.put o.dst (.slice (some ⟨g, 0, none⟩) (xs.length + 1) cap)) w') :
    wpList Tryd.prog ops Q (o :: rest) a (w.alloc (.cells #[.string (bs y)] 9)) := by
  subst ht
  obtain ⟨i0, hi, hz0, hz1, hz2⟩ := info_parts infoS
  refine wpList_append_lies _ hgd s x 26 ho B 9 i0 (.string ⟨#[]⟩) 1 16 Tryd.underlying26 hi hz0 hz1 hz2 rfl (by decide) v xs.length (strs xs) hs (hown.alloc _) ⟨w.heap.size, 0, none⟩ 1 1 [.string (bs y)] hx rfl (cell_one_str w (bs y)) (fun u hu => by simp at hu; subst hu; rfl) (by decide) (by unfold maxLen; omega) (by omega) (by simp; omega) _ rfl ?_
  intro g cap w' h1 h2 h3 h4
  refine h g cap w' ?_ ⟨?_, fun k hk hne => ?_, ?_⟩
  · unfold OwnS
    rw [strs_snoc, List.length_append]
    exact h1
  · exact ((Below.refl _ _).alloc hB _).grown h2 (by simp; omega) (fun j hj => (World.ownsRow.lt hown j hj).1)
  · rw [h2.block k (by simp; omega) (fun e => hne e.symm), Below.heap_alloc _ _ _ hk]
  · rcases h3 with e | e
    · exact Or.inl (by rw [e]; rfl)
    · exact Or.inr ⟨g, rfl, by rw [e]; simp⟩
set_option maxHeartbeats 800000 in
theorem partOf_any (k : Int) (n : Bool) (g : ByteArray) (e : Int) (t : ByteArray) (l : List JV) (ks : List ByteArray) (ao ko : Option Addr) (cap kc : Nat) (i : Nat) (w : World) (hi : i ≤ 1048576) (hT : Lib.TabIs Tryd.prog w "internal/strconv.uint64pow10" .u64 Lib.pow10Tab)
    (hk : k = 6 → ∃ b off, ko = some ⟨b, off, none⟩ ∧ i < ks.length ∧ b < w.heap.size ∧ w.cell? ⟨b, off + i, none⟩ = some (.string (ks.getD i ⟨#[]⟩))) :
    Calls Tryd.prog 42 #[.agg #[.int .i64 k, .bool n, .string g, .int .i64 e, .string t, .slice ao l.length cap, .slice ko ks.length kc], .int .i64 (i : Int)] w fun r w' => r = .returned (.string (bs (prt k ks i))) ∧ Below w.heap.size w w' := by
  by_cases h6 : k = 6
  · obtain ⟨b, off, rfl, hil, hb, hc⟩ := hk h6
    subst h6
    obtain ⟨ky, hky⟩ : ∃ ky, ks.getD i ⟨#[]⟩ = ky := ⟨_, rfl⟩
    rw [hky] at hc
    have hc2 : (w.alloc (.cells #[.int .i64 6, .bool n, .string g, .int .i64 e, .string t, .slice ao l.length cap, .slice (some ⟨b, off, none⟩) ks.length kc] 28)).cell? ⟨b, off + i, none⟩ = some (.string ky) := by
      have hbel : Below w.heap.size w (w.alloc (.cells #[.int .i64 6, .bool n, .string g, .int .i64 e, .string t, .slice ao l.length cap, .slice (some ⟨b, off, none⟩) ks.length kc] 28)) := bl_a (Below.refl _ _) _
      rw [hbel.cell (p := ⟨b, off + i, none⟩) hb]; exact hc
    have HE : Hid (bs (prt 6 ks i) = ky) := hid_intro (by unfold prt; rw [if_pos rfl, hky]; rfl)
    have hiI : (i : Int) < (ks.length : Int) := by omega
    clear hk hT hc hb hi hky
    go_enter Tryd.func42, Tryd.ntmps42
    go_wp2
    go_ret
    exact ⟨by rw [HE.out]; rfl, bl_a (Below.refl _ _) _⟩
  · have h6' : (k == 6) = false := beq_eq_false_iff_ne.2 h6
    have hit : ∀ w', Below w.heap.size w w' → Calls Tryd.prog 22 #[.int .i64 (i : Int)] w' fun e w2 => e = .returned (.string (bs (Lib.itoa (i : Int)))) ∧ Below w'.heap.size w' w2 := fun w' hb => itoa_any (i : Int) w' (by omega) (by omega) (tab_below hT hb)
    have HE : Hid (prt k ks i = Lib.itoa (i : Int)) := hid_intro (by unfold prt; rw [if_neg h6])
    clear hk hT h6 hi
    go_enter Tryd.func42, Tryd.ntmps42
    go_wp2_with (go_at_call 22; refine (hit _ (bl_a (Below.refl _ _) _)).mono ?_; rintro r w1 ⟨rfl, hb1⟩)
    go_ret
    exact ⟨by rw [HE.out]; rfl, bl_t (bl_a (Below.refl _ _) _) hb1⟩
theorem text_1 (p : List UInt8) (w : World) (hp : p.length ≤ 1048576) : Calls Tryd.prog 41 #[.slice (some ⟨w.heap.size, 0, none⟩) 1 1] (w.alloc (.cells #[.string (bs p)] 9)) fun r w' => r = .returned (.string (bs (textL [p]))) ∧ Below w.heap.size w w' := by
  refine (text_any (.slice (some ⟨w.heap.size, 0, none⟩) 1 1) [p] _ (.inr ⟨w.heap.size, 0, 1, rfl, fun i hi => ?_⟩) (by simp [sumL]; omega)).mono ?_
  · have : i = 0 := by simpa using hi
    subst this
    rw [World.cell?_alloc_at _ _ _ _ (by simp)]; rfl
  · rintro r w' ⟨rfl, hb⟩
    exact ⟨rfl, bl_t (bl_a (Below.refl _ _) _) hb⟩
end Go.Proofs.YtkbkedknoahhgaaDoor
