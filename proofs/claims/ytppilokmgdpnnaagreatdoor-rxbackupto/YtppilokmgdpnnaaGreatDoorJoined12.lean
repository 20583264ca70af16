/-
  What is appended to a slice of bytes of the call's own, and what utf.joined and ref.Copy answer. Conditions: the bytes together are at most 2^47.
  What utf.Put and ref.Put answer: the bytes of a code point behind what stands there. Conditions: the table of greatest code points holds its four numbers; what stands there is at most 2^47 - 4096 bytes long.
  What utf.Put and ref.Put answer: the bytes of a code point behind what stands there. Conditions: the table of greatest code points holds its four numbers; what stands there is at most 2^47 - 4096 bytes long.
-/
import Derived.Test.YtppilokmgdpnnaaGreatDoorJoined4
import Derived.Laws.AppendOwnNone
namespace Go.Proofs.YtppilokmgdpnnaaGreatDoor
open Go.RowKit

/-- Bytes as the cells hold them. -/
def vals (len : Nat) (f : Nat → Int) : List Value := (List.range len).map fun i => .int .u8 (f i)
theorem vals_length (len : Nat) (f : Nat → Int) : (vals len f).length = len := by simp [vals]
theorem vals_at (len : Nat) (f : Nat → Int) (i : Nat) (h : i < len) : (vals len f)[i]? = some (.int .u8 (f i)) := by simp [vals, h]
/-- One row of bytes behind another. -/
def catF (n : Nat) (f g : Nat → Int) : Nat → Int := fun i => if i < n then f i else g (i - n)
theorem vals_cat (n m : Nat) (f g : Nat → Int) : vals n f ++ vals m g = vals (n + m) (catF n f g) := by
  apply List.ext_getElem?
  intro i
  by_cases h : i < n
  · rw [List.getElem?_append_left (by rw [vals_length]; exact h), vals_at _ _ _ h, vals_at _ _ _ (by omega)]
    simp [catF, h]
  · rw [List.getElem?_append_right (by rw [vals_length]; omega), vals_length]
    by_cases h2 : i < n + m
    · rw [vals_at _ _ _ (by omega), vals_at _ _ _ h2]
      simp [catF, h]
    · rw [List.getElem?_eq_none (by rw [vals_length]; omega), List.getElem?_eq_none (by rw [vals_length]; omega)]

theorem info5 : (Tryz.prog.info? 5).map (fun i => (i.zero, i.size, i.bytes)) = some (some (.int .u8 0), 1, 1) := by kernel_rfl

theorem Row.of_own {w : World} {B : Nat} {v : Value} {len : Nat} {f : Nat → Int} (lo : ∀ i, 0 ≤ f i) (hi : ∀ i, f i < 256) (h : w.ownsRow B 5 1 v len (vals len f)) : Row w v len f := by
  rcases h.2 with ⟨rfl, h0⟩ | ⟨g, cap, cur, rfl, hb, hg, hc, hm, hs, ht⟩
  · exact .inl ⟨h0, none, 0, rfl, fun _ => rfl⟩
  · refine .inr ⟨g, 0, cap, rfl, hc, hm, ⟨fun i hi => ?_, lo, hi⟩⟩
    rw [Nat.zero_add, h.cellAt i (by omega), vals_at _ _ _ hi]

theorem cell_lt {w : World} {a : Addr} {v : Value} (h : w.cell? a = some v) : a.block < w.heap.size := by
  by_cases z : a.block < w.heap.size
  · exact z
  · simp [World.cell?, Array.getElem?_eq_none (show w.heap.size ≤ a.block by omega)] at h

theorem Row.below {w w' : World} {v : Value} {len : Nat} {f : Nat → Int} (h : Row w v len f) (hb : Below w.heap.size w w') : Row w' v len f := by
  rcases h with h | ⟨b, off, cap, rfl, hc, hm, hL⟩
  · exact .inl h
  · exact .inr ⟨b, off, cap, rfl, hc, hm, ⟨fun i hi => by rw [hb.cell (cell_lt (hL.cell i hi))]; exact hL.cell i hi, hL.lo, hL.hi⟩⟩
theorem Row.alloc {w : World} {v : Value} {len : Nat} {f : Nat → Int} (h : Row w v len f) (o : Obj) : Row (w.alloc o) v len f := h.below ((Below.refl _ _).alloc (Nat.le_refl _) o)

theorem Row.shape {w : World} {v : Value} {len : Nat} {f : Nat → Int} (h : Row w v len f) : ∃ a cap, v = .slice a len cap ∧ len ≤ maxLen := by
  rcases h with ⟨rfl, a, cap, rfl, _⟩ | ⟨b, off, cap, rfl, hc, hm, _⟩
  · exact ⟨a, cap, rfl, by simp [maxLen]⟩
  · exact ⟨_, cap, rfl, by omega⟩

/-- 'append(x, y...)', x of the call's own, y a slice of bytes. -/
theorem wpList_append_row {w : World} {ops : Array Oper} {rest : List Oper} {o : Oper} {a : Act} {Q : Exit → Act → World → Prop} (hgd : o.guard = none) (s x : Operand)
    (ho : o.op = .call { callee := .builtin .append, args := #[s, x], argTypes := #[40, 40] }) (base : Nat) (v : Value) (n : Nat) (xs : List Value) (hs : a.eval s = v) (hown : w.ownsRow base 5 1 v n xs)
    (v1 : Value) (m : Nat) (g : Nat → Int) (hx : a.eval x = v1) (hR : Row w v1 m g) (hb : n + m ≤ 140737488355328) (hbase : base ≤ w.heap.size)
    (h : ∀ v' w', w'.ownsRow base 5 1 v' (n + m) (xs ++ vals m g) → w.grownBy w' v.ownBlock → wpList Tryz.prog ops Q rest (a.put o.dst v') w') : wpList Tryz.prog ops Q (o :: rest) a w := by
  obtain ⟨i0, hi, hz0, hz1, hz2⟩ := info_parts info5
  rcases hR with ⟨rfl, ad, cap, rfl, hn⟩ | ⟨b, off, cap, rfl, hc, hm, hL⟩
  · rcases ad with _ | ad
    · have hc := hn rfl
      subst hc
      refine wpList_append_own_none hgd s x 40 ho base 5 i0 1 Tryz.underlying40 hi v n xs hs hown hx (h v w (by simpa [vals] using hown) ?_)
      exact ⟨rfl, rfl, rfl, Nat.le_refl _, fun _ _ _ => rfl⟩
    · refine wpList_append_own _ hgd s x 40 ho base 5 i0 (.int .u8 0) 1 1 Tryz.underlying40 hi hz0 hz1 hz2 rfl (by decide) v n xs hs hown ad 0 cap [] hx rfl (fun j u hj => by simp at hj) (fun u hu => by simp at hu) (by unfold maxLen; omega) (by omega) hbase ?_
      intro v' w' h1 h2 _
      exact h v' w' (by simpa [vals] using h1) h2
  · refine wpList_append_own _ hgd s x 40 ho base 5 i0 (.int .u8 0) 1 1 Tryz.underlying40 hi hz0 hz1 hz2 rfl (by decide) v n xs hs hown ⟨b, off, none⟩ m cap (vals m g) hx (by rw [vals_length]; omega) (fun j u hj => ?_) (fun u hu => ?_) (by unfold maxLen; omega) (by omega) hbase ?_
    · have hlt : j < m := by have := (List.getElem?_eq_some_iff.1 hj).1; rwa [vals_length] at this
      rw [vals_at _ _ _ hlt] at hj
      rw [add_at, hL.cell j hlt, hj]
    · simp only [vals, List.mem_map] at hu
      obtain ⟨i, _, rfl⟩ := hu
      rfl
    · intro v' w' h1 h2 _
      exact h v' w' h1 h2

theorem make_bytes (w : World) (c : Nat) (hc : c ≤ 281474976710656) : (Instr.makeSlice 40 (.int .i64 0) (.int .i64 (c : Int))).run Tryz.prog w = .ok (.slice (some ⟨w.heap.size, 0, none⟩) 0 c) (w.alloc (.cells (madeCells #[.int .u8 0] c) 5)) := by
  obtain ⟨i0, hi, hz0, hz1, hz2⟩ := info_parts info5
  have := run_make (P := Tryz.prog) w 40 5 i0 (.int .u8 0) Tryz.underlying40 hi hz0 .i64 .i64 0 (c : Int) (by omega) (by omega) (by rw [hz2]; omega) (by omega)
  rw [hz1] at this
  simpa [Value.cells] using this
theorem make_own (w : World) (c : Nat) (hc : c ≤ maxLen) : (w.alloc (.cells (madeCells #[.int .u8 0] c) 5)).ownsRow w.heap.size 5 1 (.slice (some ⟨w.heap.size, 0, none⟩) 0 c) 0 [] :=
  World.ownsRow_made w _ c (Nat.le_refl _) hc (by have := size_madeCells #[Value.int .u8 0] (c * 1); simpa using this)

set_option maxHeartbeats 400000 in
theorem joined_any (v0 v1 : Value) (n m : Nat) (f g : Nat → Int) (w : World) (h0 : Row w v0 n f) (h1 : Row w v1 m g) (hb : n + m ≤ 140737488355328) :
    Calls Tryz.prog 109 #[v0, v1] w fun e w' => ∃ r, e = .returned r ∧ w'.ownsRow w.heap.size 5 1 r (n + m) (vals (n + m) (catF n f g)) ∧ Below w.heap.size w w' := by
  have k0 := h0
  have k1 := h1
  obtain ⟨a, cap, e0, m0⟩ := h0.shape
  obtain ⟨a', cap', e1, m1⟩ := h1.shape
  subst e0 e1
  have hmk := make_bytes w (n + m) (by omega)
  have hok := make_own w (n + m) (by unfold maxLen; omega)
  rw [show (((n + m : Nat)) : Int) = (n : Int) + (m : Int) from by omega] at hmk
  have hA : Row (w.alloc (.cells (madeCells #[.int .u8 0] (n + m)) 5)) (.slice a n cap) n f := k0.alloc _
  have hbl : Below w.heap.size w (w.alloc (.cells (madeCells #[.int .u8 0] (n + m)) 5)) := (Below.refl _ _).alloc (Nat.le_refl _) _
  clear h0 h1 k0 m0 m1
  go_enter Tryz.func109, Tryz.ntmps109
  go_wp2_with (at_builtin; refine wpList_append_row rfl (.tmp 12) (.tmp 13) rfl w.heap.size _ _ _ rfl hok _ n f rfl hA ?_ ?_ ?_)
  · omega
  · simp
  · intro v' w2 hown2 hgrow2
    have hb2 : Below w.heap.size w w2 := hbl.grown hgrow2 (by simp) (fun j hj => (hok.lt j hj).1)
    have hz2 := hb2.size
    have hB := k1.below hb2
    clear hA hok hmk hbl hgrow2 k1
    go_wp2_with (at_builtin; refine wpList_append_row rfl (.tmp 15) (.tmp 16) rfl w.heap.size _ _ _ rfl hown2 _ m g rfl hB ?_ ?_ ?_)
    · omega
    · exact hz2
    · intro v3 w3 hown3 hgrow3
      have hb3 : Below w.heap.size w w3 := hb2.grown hgrow3 hz2 (fun j hj => (hown2.lt j hj).1)
      rw [vals_cat] at hown3
      clear hown2 hgrow3 hB
      go_wp2
      go_ret
      exact ⟨_, rfl, hown3, hb3⟩

/-! ### A code point's bytes -/
def encN (p : Int) : Nat := if p < 128 then 1 else if p < 2048 then 2 else if p < 65536 then 3 else 4
def encF (p : Int) : Nat → Int := fun i =>
  if p < 128 then (if i = 0 then p else 0)
  else if p < 2048 then (if i = 0 then 192 + p / 64 else if i = 1 then 128 + p % 64 else 0)
  else if p < 65536 then (if i = 0 then 224 + p / 4096 else if i = 1 then 128 + p / 64 % 64 else if i = 2 then 128 + p % 64 else 0)
  else (if i = 0 then 240 + p / 262144 else if i = 1 then 128 + p / 4096 % 64 else if i = 2 then 128 + p / 64 % 64 else if i = 3 then 128 + p % 64 else 0)
theorem encF_lo (p : Int) (h0 : 0 ≤ p) (h1 : p ≤ 1114111) (i : Nat) : 0 ≤ encF p i := by
  unfold encF; repeat' split
  all_goals omega
theorem encF_hi (p : Int) (h0 : 0 ≤ p) (h1 : p ≤ 1114111) (i : Nat) : encF p i < 256 := by
  unfold encF; repeat' split
  all_goals omega

theorem i64_orx (x : Nat) (y : Int) (i : Nat) (hx : x % 2 ^ i = 0) (hxs : x < 1000) (h0 : 0 ≤ y) (h1 : y.toNat < 2 ^ i) (h2 : y < 1000) : bits .or .i64 (x : Int) y = (x : Int) + y := by
  obtain ⟨b, rfl⟩ := Int.eq_ofNat_of_zero_le h0
  have := i64_or_nat x b i hx (by simpa using h1) (by omega)
  simpa using this
theorem or128 (y : Int) (h0 : 0 ≤ y) (h1 : y < 64) : bits .or .i64 128 y = 128 + y := i64_orx 128 y 6 rfl (by omega) h0 (by omega) (by omega)
theorem or192 (y : Int) (h0 : 0 ≤ y) (h1 : y < 32) : bits .or .i64 192 y = 192 + y := i64_orx 192 y 5 rfl (by omega) h0 (by omega) (by omega)
theorem or224 (y : Int) (h0 : 0 ≤ y) (h1 : y < 16) : bits .or .i64 224 y = 224 + y := i64_orx 224 y 4 rfl (by omega) h0 (by omega) (by omega)
theorem or240 (y : Int) (h0 : 0 ≤ y) (h1 : y < 8) : bits .or .i64 240 y = 240 + y := i64_orx 240 y 3 rfl (by omega) h0 (by omega) (by omega)

set_option maxHeartbeats 400000 in
theorem follower_any (p : Int) (w : World) (h0 : 0 ≤ p) (h1 : p ≤ 1114111) :
    Calls Tryz.prog 110 #[.int .i64 p] w fun e w' => e = .returned (.int .u8 (128 + p % 64)) ∧ w = w' := by
  have e1 := i64_and63 p h0 (by omega)
  have e2 := or128 (p % 64) (by omega) (by omega)
  go_enter Tryz.func110, Tryz.ntmps110
  go_wp2
  go_ret
  exact ⟨ret_int (by omega), rfl⟩
end Go.Proofs.YtppilokmgdpnnaaGreatDoor

namespace Go.Proofs.YtppilokmgdpnnaaGreatDoor
open Go.RowKit

/-- Is it a code point? -/
def ptB (p : Int) : Bool := decide (0 ≤ p ∧ p ≤ 1114111 ∧ ¬ (55296 ≤ p ∧ p ≤ 57343))

set_option maxHeartbeats 400000 in
theorem isPoint_any (p : Int) (w : World) (hT : Tab w) :
    Calls Tryz.prog 107 #[.int .i64 p] w fun e w' => e = .returned (.bool (ptB p)) ∧ w = w' := by
  have t3 := hT.t3
  have hs : ∀ w, Calls Tryz.prog 94 #[.int .i64 p] w fun e w' => e = .returned (.bool (surB p)) ∧ w = w' := fun w => (sur_any p w).mono fun e w' h => ⟨h.1, h.2.symm⟩
  by_cases h1 : 0 ≤ p
  · by_cases h2 : p ≤ 1114111
    · have e : (!surB p) = ptB p := by
        rw [Bool.eq_iff_iff, not_sur, ptB, decide_eq_true_iff]; omega
      go_enter Tryz.func107, Tryz.ntmps107
      go_wp2_with (go_at_call 94; refine (hs _).mono ?_; rintro e w' ⟨rfl, rfl⟩)
      go_ret
      exact ⟨ret_bool (by first | exact e | rfl), rfl⟩
    · have e : false = ptB p := (decide_eq_false (by omega)).symm
      have HE : Hid (false = ptB p) := e
      clear e
      go_enter Tryz.func107, Tryz.ntmps107
      go_wp2_with (go_at_call 94; refine (hs _).mono ?_; rintro e w' ⟨rfl, rfl⟩)
      go_ret
      exact ⟨ret_bool HE.out, rfl⟩
  · have e : false = ptB p := (decide_eq_false (by omega)).symm
    have HE : Hid (false = ptB p) := e
    clear e
    go_enter Tryz.func107, Tryz.ntmps107
    go_wp2_with (go_at_call 94; refine (hs _).mono ?_; rintro e w' ⟨rfl, rfl⟩)
    go_ret
    exact ⟨ret_bool HE.out, rfl⟩

set_option maxHeartbeats 400000 in
theorem length_any (p : Int) (w : World) (hT : Tab w) :
    Calls Tryz.prog 108 #[.int .i64 p] w fun e w' => e = .returned (.int .i64 (encN p : Nat)) ∧ w = w' := by
  obtain ⟨t0, t1, t2, t3⟩ := hT
  by_cases h1 : p < 128
  · have HE : Hid (((encN p : Nat) : Int) = 1) := by show _ = _; simp [encN, h1]
    have k : ¬ 127 < p := by omega
    go_enter Tryz.func108, Tryz.ntmps108
    go_wp2
    refine wp_loop_rounds 1 ?_
    rw [rounds_succ]
    go_wp2
    go_ret
    exact ⟨ret_int HE.out.symm, rfl⟩
  · have k1 : 127 < p := by omega
    by_cases h2 : p < 2048
    · have HE : Hid (((encN p : Nat) : Int) = 2) := by show _ = _; simp [encN, h1, h2]
      have k : ¬ 2047 < p := by omega
      go_enter Tryz.func108, Tryz.ntmps108
      go_wp2
      refine wp_loop_rounds 2 ?_
      rw [rounds_succ]
      go_wp2
      rw [rounds_succ]
      go_wp2
      go_ret
      exact ⟨ret_int HE.out.symm, rfl⟩
    · have k2 : 2047 < p := by omega
      by_cases h3 : p < 65536
      · have HE : Hid (((encN p : Nat) : Int) = 3) := by show _ = _; simp [encN, h1, h2, h3]
        have k : ¬ 65535 < p := by omega
        go_enter Tryz.func108, Tryz.ntmps108
        go_wp2
        refine wp_loop_rounds 3 ?_
        rw [rounds_succ]
        go_wp2
        rw [rounds_succ]
        go_wp2
        rw [rounds_succ]
        go_wp2
        go_ret
        exact ⟨ret_int HE.out.symm, rfl⟩
      · have HE : Hid (((encN p : Nat) : Int) = 4) := by show _ = _; simp [encN, h1, h2, h3]
        have k : 65535 < p := by omega
        go_enter Tryz.func108, Tryz.ntmps108
        go_wp2
        refine wp_loop_rounds 4 ?_
        rw [rounds_succ]
        go_wp2
        rw [rounds_succ]
        go_wp2
        rw [rounds_succ]
        go_wp2
        rw [rounds_succ]
        go_wp2
        go_ret
        exact ⟨ret_int HE.out.symm, rfl⟩
end Go.Proofs.YtppilokmgdpnnaaGreatDoor

namespace Go.Proofs.YtppilokmgdpnnaaGreatDoor
open Go.RowKit

theorem own_mono {w : World} {B B' : Nat} {e : TypeId} {size : Nat} {v : Value} {n : Nat} {xs : List Value} (h : w.ownsRow B e size v n xs) (hB : B' ≤ B) : w.ownsRow B' e size v n xs := by
  obtain ⟨h1, h2⟩ := h
  refine ⟨h1, ?_⟩
  rcases h2 with h2 | ⟨g, cap, cur, a, b, c⟩
  · exact .inl h2
  · exact .inr ⟨g, cap, cur, a, by omega, c⟩

theorem ptB_iff (p : Int) : ptB p = true ↔ (0 ≤ p ∧ p ≤ 1114111 ∧ ¬ (55296 ≤ p ∧ p ≤ 57343)) := by rw [ptB, decide_eq_true_iff]

set_option maxHeartbeats 400000 in
theorem put_bad (v0 : Value) (p : Int) (w : World) (hT : Tab w) (hp : ptB p = false) :
    Calls Tryz.prog 88 #[v0, .int .i64 p] w fun e w' => e = .returned (.tuple #[.slice none 0 0, .int .i64 2]) ∧ w = w' := by
  have h := isPoint_any p w hT
  rw [hp] at h
  go_enter Tryz.func88, Tryz.ntmps88
  go_wp2_with (go_at_call 107; refine h.mono ?_; rintro e w' ⟨rfl, rfl⟩)
  go_ret2
  exact ⟨rfl, rfl⟩

/-- The bytes of a code point in a new block. -/
theorem enc_row1 (w : World) (p : Int) (h0 : 0 ≤ p) (h : p < 128) : Row (w.alloc (.cells #[.int .u8 p] 5)) (.slice (some ⟨w.heap.size, 0, none⟩) 1 1) 1 (encF p) := by
  refine .inr ⟨_, _, 1, rfl, by omega, by simp [maxLen], ⟨fun i hi => ?_, encF_lo p h0 (by omega), encF_hi p h0 (by omega)⟩⟩
  match i, hi with
  | 0, _ => simp [encF, h]
theorem enc_row2 (w : World) (p : Int) (h0 : 128 ≤ p) (h : p < 2048) : Row (w.alloc (.cells #[.int .u8 (192 + p / 64), .int .u8 (128 + p % 64)] 5)) (.slice (some ⟨w.heap.size, 0, none⟩) 2 2) 2 (encF p) := by
  refine .inr ⟨_, _, 2, rfl, by omega, by simp [maxLen], ⟨fun i hi => ?_, encF_lo p (by omega) (by omega), encF_hi p (by omega) (by omega)⟩⟩
  have k1 : ¬ p < 128 := by omega
  match i, hi with
  | 0, _ => simp [encF, h, k1]
  | 1, _ => simp [encF, h, k1]
theorem enc_row3 (w : World) (p : Int) (h0 : 2048 ≤ p) (h : p < 65536) : Row (w.alloc (.cells #[.int .u8 (224 + p / 4096), .int .u8 (128 + p / 64 % 64), .int .u8 (128 + p % 64)] 5)) (.slice (some ⟨w.heap.size, 0, none⟩) 3 3) 3 (encF p) := by
  refine .inr ⟨_, _, 3, rfl, by omega, by simp [maxLen], ⟨fun i hi => ?_, encF_lo p (by omega) (by omega), encF_hi p (by omega) (by omega)⟩⟩
  have k1 : ¬ p < 128 := by omega
  have k2 : ¬ p < 2048 := by omega
  match i, hi with
  | 0, _ => simp [encF, h, k1, k2]
  | 1, _ => simp [encF, h, k1, k2]
  | 2, _ => simp [encF, h, k1, k2]
theorem enc_row4 (w : World) (p : Int) (h0 : 65536 ≤ p) (h : p ≤ 1114111) : Row (w.alloc (.cells #[.int .u8 (240 + p / 262144), .int .u8 (128 + p / 4096 % 64), .int .u8 (128 + p / 64 % 64), .int .u8 (128 + p % 64)] 5)) (.slice (some ⟨w.heap.size, 0, none⟩) 4 4) 4 (encF p) := by
  refine .inr ⟨_, _, 4, rfl, by omega, by simp [maxLen], ⟨fun i hi => ?_, encF_lo p (by omega) (by omega), encF_hi p (by omega) (by omega)⟩⟩
  have k1 : ¬ p < 128 := by omega
  have k2 : ¬ p < 2048 := by omega
  have k3 : ¬ p < 65536 := by omega
  match i, hi with
  | 0, _ => simp [encF, k1, k2, k3]
  | 1, _ => simp [encF, k1, k2, k3]
  | 2, _ => simp [encF, k1, k2, k3]
  | 3, _ => simp [encF, k1, k2, k3]

/-- What utf.Put answers of a code point. -/
def PutOk (v0 : Value) (n : Nat) (f : Nat → Int) (p : Int) (w : World) : Prop :=
  Calls Tryz.prog 88 #[v0, .int .i64 p] w fun e w' => ∃ r, e = .returned (.tuple #[r, .int .i64 0]) ∧ w'.ownsRow w.heap.size 5 1 r (n + encN p) (vals (n + encN p) (catF n f (encF p))) ∧ Below w.heap.size w w'

/-- What utf.joined leaves, from the world ahead of the new block. -/
theorem joined_new (v0 v1 : Value) (n m : Nat) (f g : Nat → Int) (w : World) (o : Obj) (h0 : Row w v0 n f) (h1 : Row (w.alloc o) v1 m g) (hb : n + m ≤ 140737488355328) :
    Calls Tryz.prog 109 #[v0, v1] (w.alloc o) fun e w' => ∃ r, e = .returned r ∧ w'.ownsRow w.heap.size 5 1 r (n + m) (vals (n + m) (catF n f g)) ∧ Below w.heap.size w w' := by
  refine (joined_any v0 v1 n m f g (w.alloc o) (h0.alloc o) h1 hb).mono ?_
  rintro e w' ⟨r, h1, h2, h3⟩
  exact ⟨r, h1, own_mono h2 (by simp), ((Below.refl _ _).alloc (Nat.le_refl _) o).trans (h3.mono (by simp))⟩

set_option maxHeartbeats 400000 in
theorem put_ok1 (v0 : Value) (n : Nat) (f : Nat → Int) (p : Int) (w : World) (hT : Tab w) (hp : ptB p = true) (hR : Row w v0 n f) (hb : n + 4 ≤ 140737488355328) (h : p < 128) : PutOk v0 n f p w := by
  obtain ⟨q0, q1, q2⟩ := (ptB_iff p).1 hp
  have hi := isPoint_any p w hT
  have hl := length_any p w hT
  have e : encN p = 1 := by simp [encN, h]
  have hj := joined_new v0 _ n 1 f (encF p) w _ hR (enc_row1 w p q0 h) (by omega)
  unfold PutOk
  rw [e] at hl ⊢
  rw [hp] at hi
  clear e hp
  go_enter Tryz.func88, Tryz.ntmps88
  go_wp2_with (first | (go_at_call 107; refine hi.mono ?_; rintro e w' ⟨rfl, rfl⟩) | (go_at_call 108; refine hl.mono ?_; rintro e w' ⟨rfl, rfl⟩) | (go_at_call 109; refine hj.mono ?_; rintro e w' ⟨r, rfl, ho, hbl⟩))
  go_ret2
  exact ⟨_, rfl, ho, hbl⟩

set_option maxHeartbeats 400000 in
theorem put_ok2 (v0 : Value) (n : Nat) (f : Nat → Int) (p : Int) (w : World) (hT : Tab w) (hp : ptB p = true) (hR : Row w v0 n f) (hb : n + 4 ≤ 140737488355328) (h0 : 128 ≤ p) (h : p < 2048) : PutOk v0 n f p w := by
  have hi := isPoint_any p w hT
  have hl := length_any p w hT
  have k : ¬ p < 128 := by omega
  have e : encN p = 2 := by simp [encN, h, k]
  have hj := joined_new v0 _ n 2 f (encF p) w _ hR (enc_row2 w p h0 h) (by omega)
  have hf := follower_any p w (by omega) (by omega)
  have e2 := or192 (p / 64) (by omega) (by omega)
  unfold PutOk
  rw [e] at hl ⊢
  rw [hp] at hi
  clear e hp
  go_enter Tryz.func88, Tryz.ntmps88
  go_wp2_with (first | (go_at_call 107; refine hi.mono ?_; rintro e w' ⟨rfl, rfl⟩) | (go_at_call 108; refine hl.mono ?_; rintro e w' ⟨rfl, rfl⟩) | (go_at_call 110; refine hf.mono ?_; rintro e w' ⟨rfl, rfl⟩))
  refine hj.mono ?_
  rintro e w' ⟨r, rfl, ho, hbl⟩
  go_wp2
  go_ret2
  exact ⟨_, rfl, ho, hbl⟩

set_option maxHeartbeats 400000 in
theorem put_ok3 (v0 : Value) (n : Nat) (f : Nat → Int) (p : Int) (w : World) (hT : Tab w) (hp : ptB p = true) (hR : Row w v0 n f) (hb : n + 4 ≤ 140737488355328) (h0 : 2048 ≤ p) (h : p < 65536) : PutOk v0 n f p w := by
  have hi := isPoint_any p w hT
  have hl := length_any p w hT
  have k1 : ¬ p < 128 := by omega
  have k2 : ¬ p < 2048 := by omega
  have e : encN p = 3 := by simp [encN, h, k1, k2]
  have hj := joined_new v0 _ n 3 f (encF p) w _ hR (enc_row3 w p h0 h) (by omega)
  have hf := follower_any p w (by omega) (by omega)
  have hf6 := follower_any (p / 64) w (by omega) (by omega)
  have e2 := or224 (p / 4096) (by omega) (by omega)
  unfold PutOk
  rw [e] at hl ⊢
  rw [hp] at hi
  clear e hp
  go_enter Tryz.func88, Tryz.ntmps88
  go_wp2_with (first | (go_at_call 107; refine hi.mono ?_; rintro e w' ⟨rfl, rfl⟩) | (go_at_call 108; refine hl.mono ?_; rintro e w' ⟨rfl, rfl⟩) | (go_at_call 110; fail))
  refine hf6.mono ?_
  rintro e w' ⟨rfl, rfl⟩
  go_wp2_with fail
  refine hf.mono ?_
  rintro e w' ⟨rfl, rfl⟩
  go_wp2_with fail
  refine hj.mono ?_
  rintro e w' ⟨r, rfl, ho, hbl⟩
  go_wp2
  go_ret2
  exact ⟨_, rfl, ho, hbl⟩

set_option maxHeartbeats 400000 in
theorem put_ok4 (v0 : Value) (n : Nat) (f : Nat → Int) (p : Int) (w : World) (hT : Tab w) (hp : ptB p = true) (hR : Row w v0 n f) (hb : n + 4 ≤ 140737488355328) (h0 : 65536 ≤ p) : PutOk v0 n f p w := by
  obtain ⟨q0, q1, q2⟩ := (ptB_iff p).1 hp
  have hi := isPoint_any p w hT
  have hl := length_any p w hT
  have k1 : ¬ p < 128 := by omega
  have k2 : ¬ p < 2048 := by omega
  have k3 : ¬ p < 65536 := by omega
  have e : encN p = 4 := by simp [encN, k1, k2, k3]
  have hj := joined_new v0 _ n 4 f (encF p) w _ hR (enc_row4 w p h0 q1) (by omega)
  have hf := follower_any p w (by omega) (by omega)
  have hf6 := follower_any (p / 64) w (by omega) (by omega)
  have hf12 := follower_any (p / 4096) w (by omega) (by omega)
  have e2 := or240 (p / 262144) (by omega) (by omega)
  unfold PutOk
  rw [e] at hl ⊢
  rw [hp] at hi
  clear e hp
  go_enter Tryz.func88, Tryz.ntmps88
  go_wp2_with (first | (go_at_call 107; refine hi.mono ?_; rintro e w' ⟨rfl, rfl⟩) | (go_at_call 108; refine hl.mono ?_; rintro e w' ⟨rfl, rfl⟩) | (go_at_call 110; fail))
  refine hf12.mono ?_
  rintro e w' ⟨rfl, rfl⟩
  go_wp2_with fail
  refine hf6.mono ?_
  rintro e w' ⟨rfl, rfl⟩
  go_wp2_with fail
  refine hf.mono ?_
  rintro e w' ⟨rfl, rfl⟩
  go_wp2_with fail
  refine hj.mono ?_
  rintro e w' ⟨r, rfl, ho, hbl⟩
  go_wp2
  go_ret2
  exact ⟨_, rfl, ho, hbl⟩

theorem put_ok (v0 : Value) (n : Nat) (f : Nat → Int) (p : Int) (w : World) (hT : Tab w) (hp : ptB p = true) (hR : Row w v0 n f) (hb : n + 4 ≤ 140737488355328) : PutOk v0 n f p w := by
  by_cases h1 : p < 128
  · exact put_ok1 v0 n f p w hT hp hR hb h1
  · by_cases h2 : p < 2048
    · exact put_ok2 v0 n f p w hT hp hR hb (by omega) h2
    · by_cases h3 : p < 65536
      · exact put_ok3 v0 n f p w hT hp hR hb (by omega) h3
      · exact put_ok4 v0 n f p w hT hp hR hb (by omega)
end Go.Proofs.YtppilokmgdpnnaaGreatDoor
