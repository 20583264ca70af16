/-
  Dot segments: one step at the begin of a path: what uri.firstStep, uri.segmentEnd and uri.withoutLast answer. Conditions: at most 2^46 bytes.
-/
import Derived.Test.YtgmigdfkdioalaaUU2
import Derived.Laws.AppendOwn
import Derived.Lib.AppendStr
import Derived.Deep.RegionWith
namespace Go.Proofs.Ytgmigdfkdioalaa
open Go.RowKit
attribute [local go_sem] setCell_drewN alloc_drewN

theorem infoY : (Try.prog.info? 5).map (fun i => (i.zero, i.size, i.bytes)) = some (some (.int .u8 0), 1, 1) := by kernel_rfl
/-- Bytes as values. -/
def bcs (o : List UInt8) : List Value := o.map fun c => .int .u8 (c.toNat : Int)
theorem bcs_append (a b : List UInt8) : bcs (a ++ b) = bcs a ++ bcs b := by simp [bcs]
theorem bcs_len (a : List UInt8) : (bcs a).length = a.length := by simp [bcs]
/-- A slice of the call's own that holds bytes, and is not nil. -/
def OutY (w : World) (B : Nat) (v : Value) (o : List UInt8) : Prop := ∃ g cap, v = .slice (some ⟨g, 0, none⟩) o.length cap ∧ w.ownsRow B 5 1 v o.length (bcs o)
theorem OutY.below {w w' : World} {B : Nat} {v : Value} {xs : List UInt8} (h : OutY w B v xs) (hb : Below w.heap.size w w') : OutY w' B v xs := by
  obtain ⟨g, cap, hv, h⟩ := h
  refine ⟨g, cap, hv, World.ownsRow.kept (row := none) h ⟨hb.os, hb.tape, hb.output, hb.size, fun k hk _ => hb.block k hk⟩ ?_⟩
  cases v.ownBlock with
  | none => exact .inl rfl
  | some g => exact .inr (by simp)
theorem own_cells {w : World} {B g cap : Nat} {o : List UInt8} (h : w.ownsRow B 5 1 (.slice (some ⟨g, 0, none⟩) o.length cap) o.length (bcs o)) : ∀ i, i < o.length → w.cell? ⟨g, i, none⟩ = some (.int .u8 (bx o i)) := by
  intro i hi
  have := World.ownsRow.cells h (g := g) rfl i (.int .u8 (bx o i)) (by simp [bcs, hi, bx])
  rw [add_at, Nat.zero_add] at this
  exact this
theorem own_cap {w : World} {B g cap : Nat} {o : List UInt8} (h : w.ownsRow B 5 1 (.slice (some ⟨g, 0, none⟩) o.length cap) o.length (bcs o)) : o.length ≤ cap := by
  rcases h.2 with ⟨hv, _⟩ | ⟨g', cap', cur, hv, _, _, h1, _⟩
  · cases hv
  · injection hv with _ _ hv; omega
theorem own_take {w : World} {B g cap : Nat} {o : List UInt8} (h : w.ownsRow B 5 1 (.slice (some ⟨g, 0, none⟩) o.length cap) o.length (bcs o)) (k : Nat) (hk : k ≤ o.length) : OutY w B (.slice (some ⟨g, 0, none⟩) k cap) (o.take k) := by
  have hl : (o.take k).length = k := by rw [List.length_take]; omega
  refine ⟨g, cap, by rw [hl], ?_⟩
  rcases h.2 with ⟨hv, _⟩ | ⟨g', cap', cur, hv, h0, h1, h2, h3, h4, h5⟩
  · cases hv
  · injection hv with e1 _ e2
    injection e1 with e1
    injection e1 with e1
    subst e1 e2
    refine ⟨by rw [bcs_len, Nat.mul_one], .inr ⟨g, cap, cur, by rw [hl], h0, h1, by omega, h3, h4, ?_⟩⟩
    rw [hl, Nat.mul_one]
    rw [Nat.mul_one] at h5
    have : cur.toList.take k = (cur.toList.take o.length).take k := by rw [List.take_take, Nat.min_eq_left hk]
    rw [this, h5]
    simp [bcs, List.map_take]

set_option maxHeartbeats 400000 in
theorem lastIndexSlice_any (o : List UInt8) (g cap : Nat) (c : UInt8) (w : World) (hcell : ∀ i, i < o.length → w.cell? ⟨g, i, none⟩ = some (.int .u8 (bx o i))) (hs : o.length ≤ 4611686018427387904) :
    Calls Try.prog 67 #[.slice (some ⟨g, 0, none⟩) o.length cap, .int .u8 (c.toNat : Int)] w fun e w' => e = .returned (.int .i64 ((lst o c : Int) - 1)) ∧ w' = w := by
  go_enter Try.func67, Try.ntmps67
  go_wp2
  go_loopg [5] o.length (fun g t wr => ∃ k : Nat, g = k ∧ k ≤ o.length ∧ t = .int .i64 ((k : Int) - 1) ∧ Hid (lst o c = lst (o.take k) c) ∧ wr = w)
  case atStart => exact ⟨o.length, rfl, Nat.le_refl _, rfl, by show _ = _; rw [List.take_length], rfl⟩
  case round =>
    obtain ⟨k, rfl, hk, rfl, HP, rfl⟩ := hrel
    cases gk with
    | zero =>
      have HE : Hid ((lst o c : Int) - 1 = -1) := by show _ = _; rw [HP.out]; rfl
      clear HP
      go_wp2
      go_ret
      exact ⟨ret_int (by rw [HE.out]), rfl⟩
    | succ k =>
      have hlt : k < o.length := by omega
      have e1 : ((k + 1 : Nat) : Int) - 1 = (k : Int) := by omega
      rw [e1]
      have hx := hcell k hlt
      clear hcell
      obtain ⟨x, hx2⟩ : ∃ x, o[k]? = some x := ⟨_, List.getElem?_eq_getElem hlt⟩
      have hk0 : (0 : Int) ≤ (k : Int) := by omega
      have hkS : (k : Int) < (o.length : Int) := by omega
      have ht := lst_take c hx2
      have he := u8_int x c
      rw [← bx_some hx2] at he
      generalize bx o k = y at *
      cases hc : (x == c)
      · rw [hc] at ht he
        simp only [Bool.false_eq_true, if_false] at ht
        have HR : Hid (lst o c = lst (o.take k) c) := by show _ = _; rw [HP.out, ht]
        clear HP ht hx2
        go_wp2
        go_roundg k
        case measure => omega
        case rel => exact ⟨k, rfl, by omega, by go_num, HR, rfl⟩
      · rw [hc] at ht he
        simp only [if_true] at ht
        have HR : Hid ((lst o c : Int) - 1 = (k : Int)) := by show _ = _; rw [HP.out, ht]; omega
        clear HP ht hx2
        go_wp2
        go_ret
        exact ⟨ret_int HR.out.symm, rfl⟩

set_option maxHeartbeats 400000 in
theorem bytesLast_any (o : List UInt8) (g cap : Nat) (c : UInt8) (w : World) (hc : ∀ i, i < o.length → w.cell? ⟨g, i, none⟩ = some (.int .u8 (bx o i))) (hs : o.length ≤ 4611686018427387904) :
    Calls Try.prog 54 #[.slice (some ⟨g, 0, none⟩) o.length cap, .int .u8 (c.toNat : Int)] w fun e w' => e = .returned (.int .i64 ((lst o c : Int) - 1)) ∧ w' = w := by
  have h := lastIndexSlice_any o g cap c w hc hs
  clear hc
  go_enter Try.func54, Try.ntmps54
  go_wp2_with (go_at_call 67; refine h.mono ?_; rintro e w' ⟨rfl, rfl⟩)
  go_ret
  exact ⟨rfl, rfl⟩

/-- Without the last segment, with the sign ahead of it. -/
def upL (o : List UInt8) : List UInt8 := o.take (lst o 47 - 1)

set_option maxHeartbeats 400000 in
theorem withoutLast_any (v : Value) (B : Nat) (o : List UInt8) (w : World) (hO : OutY w B v o) (hs : o.length ≤ 4611686018427387904) :
    Calls Try.prog 37 #[v] w fun e w' => ∃ v', e = .returned v' ∧ (∀ W, OutY W B v o → OutY W B v' (upL o)) ∧ w' = w := by
  obtain ⟨g, cap, rfl, hO⟩ := hO
  have h := bytesLast_any o g cap 47 w (own_cells hO) hs
  have hcp := own_cap hO
  have hle := lst_le o 47
  have hT : ∀ W, OutY W B (.slice (some ⟨g, 0, none⟩) o.length cap) o → OutY W B (.slice (some ⟨g, 0, none⟩) (lst o 47 - 1) cap) (o.take (lst o 47 - 1)) := fun W ⟨g', cap', hv, h⟩ => own_take h (lst o 47 - 1) (by omega)
  unfold upL
  cases hk : lst o 47 with
  | zero =>
    rw [hk] at h hT
    clear hO
    go_enter Try.func37, Try.ntmps37
    go_wp2_with (go_at_call 54; refine h.mono ?_; rintro e w' ⟨rfl, rfl⟩)
    go_ret
    exact ⟨_, rfl, hT, rfl⟩
  | succ k =>
    rw [hk] at h hT hle
    have e1 : ((k + 1 : Nat) : Int) - 1 = (k : Int) := by omega
    rw [e1] at h
    have k0 : (0 : Int) ≤ (k : Int) := by omega
    have k1 : (k : Int) ≤ (cap : Int) := by omega
    clear hO
    go_enter Try.func37, Try.ntmps37
    go_wp2_with (go_at_call 54; refine h.mono ?_; rintro e w' ⟨rfl, rfl⟩)
    go_ret
    exact ⟨_, rfl, hT, rfl⟩
end Go.Proofs.Ytgmigdfkdioalaa
