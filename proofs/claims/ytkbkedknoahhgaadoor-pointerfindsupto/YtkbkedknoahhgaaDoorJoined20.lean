/-
  What value.holdsOthers, value.Size, value.Depth and their like of the reference answer. No condition.
-/
import Derived.Test.YtkbkedknoahhgaaDoorJoined19
import Derived.WalkSpells
import Derived.WalkLawsBesides
import Derived.Deep.QuietTactic
import Derived.BigQuiet
import Derived.Deep.RegionWith
import Derived.Deep.LoopGhost
namespace Go.Proofs.YtkbkedknoahhgaaDoor
open Go.RowKit
theorem vb_a {a w : World} (h : Below a.heap.size a w) (o : Obj) : Below a.heap.size a (w.alloc o) := h.alloc h.size o
theorem vb_t {a w w2 : World} (h : Below a.heap.size a w) (h2 : Below w.heap.size w w2) : Below a.heap.size a w2 := h.trans (h2.mono h.size)

mutual
/-- How many values, as Go counts. -/
def sizeV : JV → Int
  | .mk _ _ _ _ _ l _ => sizeL l 1
def sizeL : List JV → Int → Int
  | [], a => a
  | v :: l, a => sizeL l (wrap64 (a + sizeV v))
end

/-- A value opened: its cells, and its elements. -/
theorem VI.open {w : World} {X : Nat → Prop} {k : Int} {n : Bool} {g : ByteArray} {e : Int} {t : ByteArray} {l : List JV} {ks : List ByteArray} {f : Nat → Value} (h : VI w X (.mk k n g e t l ks) f) :
    ∃ (ao : Option Addr) (cap : Nat) (ko : Option Addr) (kc : Nat) (G : Nat → Nat → Value), va f = .agg #[.int .i64 k, .bool n, .string g, .int .i64 e, .string t, .slice ao l.length cap, .slice ko ks.length kc] ∧
      l.length ≤ maxLen ∧ ks.length ≤ maxLen ∧ (∀ i (h : i < l.length), VI w X l[i] (G i)) ∧
      (l = [] ∨ ∃ b off, ao = some ⟨b, off, none⟩ ∧ b < w.heap.size ∧ ∀ i, i < l.length → ∀ j, j < 7 → w.cell? ⟨b, off + i * 7 + j, none⟩ = some (G i j)) ∧
      (ks = [] ∨ ∃ b off, ko = some ⟨b, off, none⟩ ∧ b < w.heap.size ∧ ∀ i (h : i < ks.length), w.cell? ⟨b, off + i, none⟩ = some (.string ks[i])) := by
  cases h with
  | mk ao cap G f0 f1 f2 f3 f4 f5 f6 hc hs hw hl hr =>
  obtain ⟨ko, kc, e6, k1, k2, _, k4⟩ := f6
  refine ⟨ao, cap, ko, kc, G, by simp only [va, f0, f1, f2, f3, f4, f5, e6], by omega, by omega, hr, ?_, ?_⟩
  · rcases hl with h | ⟨b, off, h1, _, h2⟩
    · exact Or.inl h
    · by_cases hk : l = []
      · exact Or.inl hk
      exact Or.inr ⟨b, off, h1, World.block_lt_of_cell? w _ (h2 0 (List.length_pos_iff.2 hk) 0 (by omega)), h2⟩
  · rcases k4 with h | ⟨b, off, h1, _, h2⟩
    · exact Or.inl h
    · by_cases hk : ks = []
      · exact Or.inl hk
      exact Or.inr ⟨b, off, h1, World.block_lt_of_cell? w _ (h2 0 (List.length_pos_iff.2 hk)), h2⟩

set_option maxRecDepth 100000 in
set_option maxHeartbeats 3200000 in
theorem size_any (v : JV) : ∀ (f : Nat → Value) (w : World), VI w (fun _ => False) v f →
    Calls Tryd.prog 24 #[va f] w fun r w' => r = .returned (.int .i64 (sizeV v)) ∧ Below w.heap.size w w' := by
  induction v using JV.ind with
  | h k n g e t l ks ih =>
  intro f w hv
  obtain ⟨ao, cap, ko, kc, G, hf, hll, hkl, hr, hl, hk⟩ := hv.open
  rw [hf]
  have hm : (l.length : Int) ≤ 9223372036854775807 := by unfold maxLen at hll; omega
  generalize hW : w.alloc (.cells #[.int .i64 k, .bool n, .string g, .int .i64 e, .string t, .slice ao l.length cap, .slice ko ks.length kc] 28) = W
  have hb0 : Below w.heap.size w W := hW ▸ vb_a (Below.refl _ _) _
  have hc5 : W.cell? ⟨w.heap.size, 5, none⟩ = some (.slice ao l.length cap) := by rw [← hW]; simp
  go_enter Tryd.func24, Tryd.ntmps24
  go_wp2_with fail
  go_loopg [3, 8] l.length (fun gg s3 s8 wr => ∃ (i : Nat) (a : Int), i ≤ l.length ∧ gg = l.length - i ∧ s8 = .int .i64 (i : Int) ∧ s3 = .int .i64 a ∧ Hid (sizeL (l.drop i) a = sizeL l 1) ∧ Below W.heap.size W wr)
  case atStart => first | exact ⟨0, 1, Nat.zero_le _, rfl, rfl, rfl, rfl, Below.refl _ _⟩ | exact ⟨0, 1, Nat.zero_le _, rfl, rfl, rfl, rfl, hb1⟩
  case round =>
    obtain ⟨i, a, hi, rfl, rfl, rfl, hh, hbel⟩ := hrel
    have hlt0 : w.heap.size < W.heap.size := by rw [← hW]; simp
    have hc5' : wr.cell? ⟨w.heap.size, 5, none⟩ = some (.slice ao l.length cap) := (hbel.cell hlt0).trans hc5
    by_cases h : i < l.length
    · obtain ⟨b, off, rfl, hbs, hce⟩ := hl.resolve_left (fun e => by rw [e] at h; exact absurd h (by simp))
      have hI : (i : Int) < (l.length : Int) := by omega
      have hcx : ∀ j, j < 7 → wr.cell? ⟨b, off + i * 7 + j, none⟩ = some (G i j) := fun j hj => (hbel.cell (p := ⟨b, _, none⟩) (by exact Nat.lt_trans hbs hlt0)).trans ((hb0.cell (p := ⟨b, _, none⟩) hbs).trans (hce i h j hj))
      have d0 : wr.cell? ⟨b, off + i * 7, none⟩ = some (G i 0) := hcx 0 (by omega)
      have d1 := hcx 1 (by omega)
      have d2 := hcx 2 (by omega)
      have d3 := hcx 3 (by omega)
      have d4 := hcx 4 (by omega)
      have d5 := hcx 5 (by omega)
      have d6 := hcx 6 (by omega)
      have cal := ih l[i] (List.getElem_mem h) (G i) wr (((hr i h).kept hb0).kept hbel)
      rw [List.drop_eq_getElem_cons h, sizeL] at hh
      generalize sizeV l[i] = S at *
      clear hce hcx hr hl hk ih
      go_wp2_with (first | (go_at_call 24; refine cal.mono ?_; rintro r w1 ⟨rfl, hb1⟩))
      all_goals (go_roundg (l.length - (i + 1)); (case measure => omega); (case rel => exact ⟨i + 1, wrap64 (a + S), by omega, rfl, by go_num, rfl, hh, vb_t hbel hb1⟩))
    · have hI : ¬ ((i : Int) < (l.length : Int)) := by omega
      go_wp2_with fail
      go_ret
      have hh := hh.out
      rw [List.drop_eq_nil_of_le (by omega), sizeL] at hh
      exact ⟨by rw [sizeV, ← hh]; rfl, vb_t hb0 hbel⟩

set_option maxRecDepth 100000 in
set_option maxHeartbeats 3200000 in
theorem rsize_any (v : JV) : ∀ (f : Nat → Value) (w : World), VI w (fun _ => False) v f →
    Calls Tryd.prog 14 #[va f] w fun r w' => r = .returned (.int .i64 (sizeV v)) ∧ Below w.heap.size w w' := by
  induction v using JV.ind with
  | h k n g e t l ks ih =>
  intro f w hv
  obtain ⟨ao, cap, ko, kc, G, hf, hll, hkl, hr, hl, hk⟩ := hv.open
  rw [hf]
  have hm : (l.length : Int) ≤ 9223372036854775807 := by unfold maxLen at hll; omega
  generalize hW : w.alloc (.cells #[.int .i64 k, .bool n, .string g, .int .i64 e, .string t, .slice ao l.length cap, .slice ko ks.length kc] 28) = W
  have hb0 : Below w.heap.size w W := hW ▸ vb_a (Below.refl _ _) _
  have hc5 : W.cell? ⟨w.heap.size, 5, none⟩ = some (.slice ao l.length cap) := by rw [← hW]; simp
  go_enter Tryd.func14, Tryd.ntmps14
  go_wp2_with fail
  go_loopg [3, 4] l.length (fun gg s3 s8 wr => ∃ (i : Nat) (a : Int), i ≤ l.length ∧ gg = l.length - i ∧ s8 = .int .i64 (i : Int) ∧ s3 = .int .i64 a ∧ Hid (sizeL (l.drop i) a = sizeL l 1) ∧ Below W.heap.size W wr)
  case atStart => first | exact ⟨0, 1, Nat.zero_le _, rfl, rfl, rfl, rfl, Below.refl _ _⟩ | exact ⟨0, 1, Nat.zero_le _, rfl, rfl, rfl, rfl, hb1⟩
  case round =>
    obtain ⟨i, a, hi, rfl, rfl, rfl, hh, hbel⟩ := hrel
    have hlt0 : w.heap.size < W.heap.size := by rw [← hW]; simp
    have hc5' : wr.cell? ⟨w.heap.size, 5, none⟩ = some (.slice ao l.length cap) := (hbel.cell hlt0).trans hc5
    by_cases h : i < l.length
    · obtain ⟨b, off, rfl, hbs, hce⟩ := hl.resolve_left (fun e => by rw [e] at h; exact absurd h (by simp))
      have hI : (i : Int) < (l.length : Int) := by omega
      have hcx : ∀ j, j < 7 → wr.cell? ⟨b, off + i * 7 + j, none⟩ = some (G i j) := fun j hj => (hbel.cell (p := ⟨b, _, none⟩) (by exact Nat.lt_trans hbs hlt0)).trans ((hb0.cell (p := ⟨b, _, none⟩) hbs).trans (hce i h j hj))
      have d0 : wr.cell? ⟨b, off + i * 7, none⟩ = some (G i 0) := hcx 0 (by omega)
      have d1 := hcx 1 (by omega)
      have d2 := hcx 2 (by omega)
      have d3 := hcx 3 (by omega)
      have d4 := hcx 4 (by omega)
      have d5 := hcx 5 (by omega)
      have d6 := hcx 6 (by omega)
      have cal := ih l[i] (List.getElem_mem h) (G i) wr (((hr i h).kept hb0).kept hbel)
      rw [List.drop_eq_getElem_cons h, sizeL] at hh
      generalize sizeV l[i] = S at *
      clear hce hcx hr hl hk ih
      go_wp2_with (first | (go_at_call 14; refine cal.mono ?_; rintro r w1 ⟨rfl, hb1⟩))
      all_goals (go_roundg (l.length - (i + 1)); (case measure => omega); (case rel => exact ⟨i + 1, wrap64 (a + S), by omega, rfl, by go_num, rfl, hh, vb_t hbel hb1⟩))
    · have hI : ¬ ((i : Int) < (l.length : Int)) := by omega
      go_wp2_with fail
      go_ret
      have hh := hh.out
      rw [List.drop_eq_nil_of_le (by omega), sizeL] at hh
      exact ⟨by rw [sizeV, ← hh]; rfl, vb_t hb0 hbel⟩

def vholds (k : Int) : Bool := decide (k = 5 ∨ k = 6)
def rholds (k : Int) : Bool := !decide (k < 5)
mutual
/-- How deep a value is, by which kinds hold others. -/
def depthV (c : Int → Bool) : JV → Int
  | .mk k _ _ _ _ l _ => if c k = true then wrap64 (depthL c l 0 + 1) else 0
def depthL (c : Int → Bool) : List JV → Int → Int
  | [], a => a
  | v :: l, a => depthL c l (max a (depthV c v))
end

set_option maxRecDepth 100000 in
set_option maxHeartbeats 3200000 in
theorem rdepth_any (v : JV) : ∀ (f : Nat → Value) (w : World), VI w (fun _ => False) v f →
    Calls Tryd.prog 6 #[va f] w fun r w' => r = .returned (.int .i64 (depthV rholds v)) ∧ Below w.heap.size w w' := by
  induction v using JV.ind with
  | h k n g e t l ks ih =>
  intro f w hv
  obtain ⟨ao, cap, ko, kc, G, hf, hll, hkl, hr, hl, hk⟩ := hv.open
  rw [hf]
  have hm : (l.length : Int) ≤ 9223372036854775807 := by unfold maxLen at hll; omega
  generalize hW : w.alloc (.cells #[.int .i64 k, .bool n, .string g, .int .i64 e, .string t, .slice ao l.length cap, .slice ko ks.length kc] 28) = W
  have hb0 : Below w.heap.size w W := hW ▸ vb_a (Below.refl _ _) _
  have hc5 : W.cell? ⟨w.heap.size, 5, none⟩ = some (.slice ao l.length cap) := by rw [← hW]; simp
  have z0 : W.cell? ⟨w.heap.size, 0, none⟩ = some (.int .i64 k) := by rw [← hW]; simp
  have z1 : W.cell? ⟨w.heap.size, 1, none⟩ = some (.bool n) := by rw [← hW]; simp
  have z2 : W.cell? ⟨w.heap.size, 2, none⟩ = some (.string g) := by rw [← hW]; simp
  have z3 : W.cell? ⟨w.heap.size, 3, none⟩ = some (.int .i64 e) := by rw [← hW]; simp
  have z4 : W.cell? ⟨w.heap.size, 4, none⟩ = some (.string t) := by rw [← hW]; simp
  have z6 : W.cell? ⟨w.heap.size, 6, none⟩ = some (.slice ko ks.length kc) := by rw [← hW]; simp
  by_cases hq : rholds k = true
  case neg =>
    have hq' : rholds k = false := by simpa using hq
    go_enter Tryd.func6, Tryd.ntmps6
    have hk5 : (k < 5) := by simpa [rholds] using hq
    go_wp2_with fail
    go_ret
    exact ⟨by rw [depthV, if_neg hq]; rfl, hb0⟩
  go_enter Tryd.func6, Tryd.ntmps6
  have hk5 : ¬ (k < 5) := by simpa [rholds] using hq
  go_wp2_with fail
  go_loopg [3, 4] l.length (fun gg s3 s8 wr => ∃ (i : Nat) (a : Int), i ≤ l.length ∧ gg = l.length - i ∧ s8 = .int .i64 (i : Int) ∧ s3 = .int .i64 a ∧ Hid (depthL rholds (l.drop i) a = depthL rholds l 0) ∧ Below W.heap.size W wr)
  case atStart => first | exact ⟨0, 0, Nat.zero_le _, rfl, rfl, rfl, rfl, Below.refl _ _⟩ | exact ⟨0, 0, Nat.zero_le _, rfl, rfl, rfl, rfl, hb1⟩
  case round =>
    obtain ⟨i, a, hi, rfl, rfl, rfl, hh, hbel⟩ := hrel
    have hlt0 : w.heap.size < W.heap.size := by rw [← hW]; simp
    have hc5' : wr.cell? ⟨w.heap.size, 5, none⟩ = some (.slice ao l.length cap) := (hbel.cell hlt0).trans hc5
    by_cases h : i < l.length
    · obtain ⟨b, off, rfl, hbs, hce⟩ := hl.resolve_left (fun e => by rw [e] at h; exact absurd h (by simp))
      have hI : (i : Int) < (l.length : Int) := by omega
      have hcx : ∀ j, j < 7 → wr.cell? ⟨b, off + i * 7 + j, none⟩ = some (G i j) := fun j hj => (hbel.cell (p := ⟨b, _, none⟩) (by exact Nat.lt_trans hbs hlt0)).trans ((hb0.cell (p := ⟨b, _, none⟩) hbs).trans (hce i h j hj))
      have d0 : wr.cell? ⟨b, off + i * 7, none⟩ = some (G i 0) := hcx 0 (by omega)
      have d1 := hcx 1 (by omega)
      have d2 := hcx 2 (by omega)
      have d3 := hcx 3 (by omega)
      have d4 := hcx 4 (by omega)
      have d5 := hcx 5 (by omega)
      have d6 := hcx 6 (by omega)
      have cal := ih l[i] (List.getElem_mem h) (G i) wr (((hr i h).kept hb0).kept hbel)
      rw [List.drop_eq_getElem_cons h, depthL] at hh
      generalize depthV rholds l[i] = S at *
      clear hce hcx hr hl hk ih
      go_wp2_with (first | (go_at_call 6; refine cal.mono ?_; rintro r w1 ⟨rfl, hb1⟩))
      all_goals (go_roundg (l.length - (i + 1)); (case measure => omega); (case rel => exact ⟨i + 1, max a S, by omega, rfl, by go_num, by congr 1; omega, hh, vb_t hbel hb1⟩))
    · have hI : ¬ ((i : Int) < (l.length : Int)) := by omega
      go_wp2_with fail
      go_ret
      have hh := hh.out
      rw [List.drop_eq_nil_of_le (by omega), depthL] at hh
      exact ⟨by rw [depthV, if_pos hq, ← hh]; rfl, vb_t hb0 hbel⟩

end Go.Proofs.YtkbkedknoahhgaaDoor
