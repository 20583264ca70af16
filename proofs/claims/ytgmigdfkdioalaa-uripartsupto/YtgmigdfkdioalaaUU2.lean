/-
  Where a byte stands first and last in a list; what the library's searches answer at one byte, and its prefixes. Conditions: at most 2^62 bytes.
-/
import Derived.Test.YtgmigdfkdioalaaUU1
import Derived.Lib.Walk
import Derived.Lib.Slices
import Derived.Deep.LoopGhost
namespace Go.Proofs.Ytgmigdfkdioalaa
open Go.RowKit
attribute [local go_sem] setCell_drewN alloc_drewN

/-- Where a byte stands first; the length: nowhere. -/
def ix : List UInt8 → UInt8 → Nat
  | [], _ => 0
  | b :: l, c => if b == c then 0 else ix l c + 1
theorem ix_le (l : List UInt8) (c : UInt8) : ix l c ≤ l.length := by
  induction l with
  | nil => exact Nat.le_refl _
  | cons b l ih => simp only [ix]; split <;> simp only [List.length_cons] <;> omega
theorem idx_ix (l : List UInt8) (c : UInt8) : (ix l c < l.length ∧ Lib.indexByte l c = (ix l c : Int)) ∨ (ix l c = l.length ∧ Lib.indexByte l c = -1) := by
  induction l with
  | nil => exact .inr ⟨rfl, rfl⟩
  | cons b l ih =>
    simp only [ix, Lib.indexByte, List.length_cons]
    cases hb : (b == c)
    · simp only [Bool.false_eq_true, if_false]
      rcases ih with ⟨h1, h2⟩ | ⟨h1, h2⟩
      · left
        refine ⟨by omega, ?_⟩
        rw [h2]
        have : ((ix l c : Int) == -1) = false := by rw [beq_eq_false_iff_ne]; omega
        rw [this]
        simp only [Bool.false_eq_true, if_false]
        omega
      · right
        rw [h2]
        exact ⟨by omega, rfl⟩
    · simp only [if_true]
      exact .inl ⟨by omega, rfl⟩
theorem ix_no (l : List UInt8) (c : UInt8) : ∀ j, j < ix l c → l[j]? ≠ some c := by
  induction l with
  | nil => intro j hj; exact absurd hj (Nat.not_lt_zero _)
  | cons b l ih =>
    intro j hj
    simp only [ix] at hj
    cases hb : (b == c)
    · rw [hb] at hj
      simp only [Bool.false_eq_true, if_false] at hj
      cases j with
      | zero => simp only [List.getElem?_cons_zero]; intro e; injection e with e; rw [e] at hb; simp at hb
      | succ j => simp only [List.getElem?_cons_succ]; exact ih j (by omega)
    · rw [hb] at hj
      simp only [if_true] at hj
      exact absurd hj (Nat.not_lt_zero _)
theorem ix_at (l : List UInt8) (c : UInt8) (h : ix l c < l.length) : l[ix l c]? = some c := by
  induction l with
  | nil => exact absurd h (Nat.not_lt_zero _)
  | cons b l ih =>
    simp only [ix] at h ⊢
    cases hb : (b == c)
    · rw [hb] at h
      simp only [Bool.false_eq_true, if_false, List.length_cons, List.getElem?_cons_succ] at h ⊢
      exact ih (by omega)
    · simp only [if_true, List.getElem?_cons_zero]
      rw [beq_iff_eq] at hb; rw [hb]
theorem ix_eq {l : List UInt8} {c : UInt8} {k : Nat} (hk : k ≤ l.length) (h1 : ∀ j, j < k → l[j]? ≠ some c) (h2 : k < l.length → l[k]? = some c) : ix l c = k := by
  have a := ix_le l c
  rcases Nat.lt_trichotomy (ix l c) k with h | h | h
  · exact absurd (ix_at l c (by omega)) (h1 _ h)
  · exact h
  · exact absurd (h2 (by omega)) (ix_no l c k h)
theorem ix_mem (l : List UInt8) (c : UInt8) : c ∈ l ↔ ix l c < l.length := by
  constructor
  · intro h
    obtain ⟨j, hj, e⟩ := List.getElem_of_mem h
    rcases Nat.lt_or_ge (ix l c) l.length with h1 | h1
    · exact h1
    · exact absurd (by rw [List.getElem?_eq_getElem hj, e]) (ix_no l c j (by omega))
  · intro h
    exact List.mem_of_getElem? (ix_at l c h)
theorem ix_ahead (l : List UInt8) (c : UInt8) : ¬ c ∈ l.take (ix l c) := by
  intro h
  obtain ⟨j, hj, e⟩ := List.getElem_of_mem h
  rw [List.length_take] at hj
  rw [List.getElem_take] at e
  exact ix_no l c j (by omega) (by rw [List.getElem?_eq_getElem (by omega), e])
theorem ix_append {a b : List UInt8} {c : UInt8} (h : ¬ c ∈ a) : ix (a ++ b) c = a.length + ix b c := by
  induction a with
  | nil => simp
  | cons x a ih =>
    have hx : (x == c) = false := by rw [beq_eq_false_iff_ne]; intro e; exact h (by rw [e]; exact List.mem_cons_self ..)
    simp only [List.cons_append, ix, hx, Bool.false_eq_true, if_false, List.length_cons]
    rw [ih (fun hm => h (List.mem_cons_of_mem _ hm))]
    omega

/-- One more than the last place of a byte; 0: nowhere. -/
def lst : List UInt8 → UInt8 → Nat
  | [], _ => 0
  | b :: l, c => if lst l c ≠ 0 then lst l c + 1 else if b == c then 1 else 0
theorem lst_snoc (a : List UInt8) (x c : UInt8) : lst (a ++ [x]) c = if x == c then a.length + 1 else lst a c := by
  induction a with
  | nil => simp [lst]
  | cons b a ih =>
    simp only [List.cons_append, lst, ih, List.length_cons]
    cases hx : (x == c) <;> simp
theorem lst_le (l : List UInt8) (c : UInt8) : lst l c ≤ l.length := by
  induction l with
  | nil => exact Nat.le_refl _
  | cons b l ih => simp only [lst, List.length_cons]; split; omega; split <;> omega
theorem lst_take {l : List UInt8} {k : Nat} {x : UInt8} (c : UInt8) (h : l[k]? = some x) : lst (l.take (k + 1)) c = if x == c then k + 1 else lst (l.take k) c := by
  have hk : k < l.length := by
    rcases Nat.lt_or_ge k l.length with h1 | h1
    · exact h1
    · rw [List.getElem?_eq_none h1] at h; cases h
  rw [List.take_add_one, h]
  show lst (l.take k ++ [x]) c = _
  rw [lst_snoc, List.length_take, Nat.min_eq_left (by omega)]

theorem at_list (s : ByteArray) (k : Nat) (h : k < s.size) : s.data.toList[k]? = some (s[k]'h) := by
  rw [Array.getElem?_toList, Array.getElem?_eq_getElem (show k < s.data.size from h)]; rfl
theorem bx_some {l : List UInt8} {k : Nat} {x : UInt8} (h : l[k]? = some x) : bx l k = (x.toNat : Int) := by unfold bx; rw [h]; rfl
theorem u8_of (c : UInt8) : ((c.toNat : Int)).toNat.toUInt8 = c := by simp

set_option maxHeartbeats 400000 in
theorem slIndexByte (s : ByteArray) (c : Int) (w : World) :
    Calls Try.prog 73 #[.string s, .int .u8 c] w fun e w' => e = .returned (.int .i64 (Lib.indexByte s.data.toList c.toNat.toUInt8)) ∧ w' = w := by
  go_enter Try.func73, Try.ntmps73
  go_wp2
  rw [run_callFunc_extern Try.func81 (by kernel_rfl) (by kernel_rfl) (by kernel_rfl) (e := Extern.BytealgIndexByte.indexByte) (by kernel_rfl), Lib.run_indexByteString]
  simp only [Result.andThen]
  rw [Oper.upon_value]
  go_wp2
  go_ret
  exact ⟨rfl, rfl⟩

set_option maxHeartbeats 400000 in
theorem indexByte_any (s : ByteArray) (c : Int) (w : World) :
    Calls Try.prog 57 #[.string s, .int .u8 c] w fun e w' => e = .returned (.int .i64 (Lib.indexByte s.data.toList c.toNat.toUInt8)) ∧ w' = w := by
  have h := slIndexByte s c w
  go_enter Try.func57, Try.ntmps57
  go_wp2_with (go_at_call 73; refine h.mono ?_; rintro e w' ⟨rfl, rfl⟩)
  go_ret
  exact ⟨rfl, rfl⟩

theorem eq_bytes (a b : ByteArray) : (a.toList == b.toList) = decide (a = b) := by
  rw [Lib.toList_data, Lib.toList_data, Bool.eq_iff_iff, beq_iff_eq, decide_eq_true_eq]
  constructor
  · intro h
    obtain ⟨⟨x⟩⟩ := a
    obtain ⟨⟨y⟩⟩ := b
    simp at h
    rw [h]
  · intro h; rw [h]
theorem eq_list (a b : ByteArray) : (a.toList == b.toList) = (a.data.toList == b.data.toList) := by rw [Lib.toList_data, Lib.toList_data]

set_option maxHeartbeats 400000 in
theorem slHasPrefix (s p : ByteArray) (w : World) :
    Calls Try.prog 66 #[.string s, .string p] w fun e w' => e = .returned (.bool (Lib.hasPrefix s.data.toList p.data.toList)) ∧ w' = w := by
  have HE : Hid ((decide (p.size ≤ s.size) && ((s.extract 0 p.size).toList == p.toList)) = Lib.hasPrefix s.data.toList p.data.toList) := by
    show _ = _
    rw [← Lib.hasPrefix_of_take, ← Lib.size_eq, ← Lib.size_eq, Lib.extract_toList, Lib.toList_data]
    simp
  cases h1 : decide (p.size ≤ s.size)
  · have h2 : ¬ (p.size : Int) ≤ (s.size : Int) := by have := of_decide_eq_false h1; omega
    rw [h1] at HE
    clear h1
    go_enter Try.func66, Try.ntmps66
    go_wp2
    go_ret
    exact ⟨r_bool HE.out, rfl⟩
  · have h2 : (p.size : Int) ≤ (s.size : Int) := by have := of_decide_eq_true h1; omega
    rw [h1] at HE
    clear h1
    go_enter Try.func66, Try.ntmps66
    go_wp2
    go_ret
    exact ⟨r_bool HE.out, rfl⟩

set_option maxHeartbeats 400000 in
theorem hasPrefix_any (s p : ByteArray) (w : World) :
    Calls Try.prog 52 #[.string s, .string p] w fun e w' => e = .returned (.bool (Lib.hasPrefix s.data.toList p.data.toList)) ∧ w' = w := by
  have h := slHasPrefix s p w
  go_enter Try.func52, Try.ntmps52
  go_wp2_with (go_at_call 66; refine h.mono ?_; rintro e w' ⟨rfl, rfl⟩)
  go_ret
  exact ⟨rfl, rfl⟩

set_option maxHeartbeats 400000 in
theorem lastIndexString_any (s : ByteArray) (c : UInt8) (w : World) (hs : s.size ≤ 4611686018427387904) :
    Calls Try.prog 79 #[.string s, .int .u8 (c.toNat : Int)] w fun e w' => e = .returned (.int .i64 ((lst s.data.toList c : Int) - 1)) ∧ w' = w := by
  have hl := len_of s
  go_enter Try.func79, Try.ntmps79
  go_wp2
  go_loopg [5] s.size (fun g t wr => ∃ k : Nat, g = k ∧ k ≤ s.size ∧ t = .int .i64 ((k : Int) - 1) ∧ Hid (lst s.data.toList c = lst (s.data.toList.take k) c) ∧ wr = w)
  case atStart => exact ⟨s.size, rfl, Nat.le_refl _, rfl, by show _ = _; rw [← hl, List.take_length], rfl⟩
  case round =>
    obtain ⟨k, rfl, hk, rfl, HP, rfl⟩ := hrel
    cases gk with
    | zero =>
      have HE : Hid ((lst s.data.toList c : Int) - 1 = -1) := by show _ = _; rw [HP.out]; rfl
      clear HP
      go_wp2
      go_ret
      exact ⟨ret_int (by rw [HE.out]), rfl⟩
    | succ k =>
      have hlt : k < s.size := by omega
      have e1 : ((k + 1 : Nat) : Int) - 1 = (k : Int) := by omega
      rw [e1]
      have hx := bx_at s k hlt
      obtain ⟨x, hx2⟩ : ∃ x, s.data.toList[k]? = some x := ⟨_, at_list s k hlt⟩
      have hk0 : (0 : Int) ≤ (k : Int) := by omega
      have hkS : (k : Int) < (s.size : Int) := by omega
      have ht := lst_take c hx2
      have he := u8_int x c
      rw [← bx_some hx2] at he
      generalize bx s.data.toList k = y at *
      cases hc : (x == c)
      · rw [hc] at ht he
        simp only [Bool.false_eq_true, if_false] at ht
        have HR : Hid (lst s.data.toList c = lst (s.data.toList.take k) c) := by show _ = _; rw [HP.out, ht]
        clear HP ht hx2
        go_wp2
        go_roundg k
        case measure => omega
        case rel => exact ⟨k, rfl, by omega, by go_num, HR, rfl⟩
      · rw [hc] at ht he
        simp only [if_true] at ht
        have HR : Hid ((lst s.data.toList c : Int) - 1 = (k : Int)) := by show _ = _; rw [HP.out, ht]; omega
        clear HP ht hx2
        go_wp2
        go_ret
        exact ⟨ret_int HR.out.symm, rfl⟩

set_option maxHeartbeats 400000 in
theorem lastIndexByte_any (s : ByteArray) (c : UInt8) (w : World) (hs : s.size ≤ 4611686018427387904) :
    Calls Try.prog 65 #[.string s, .int .u8 (c.toNat : Int)] w fun e w' => e = .returned (.int .i64 ((lst s.data.toList c : Int) - 1)) ∧ w' = w := by
  have h := lastIndexString_any s c w hs
  go_enter Try.func65, Try.ntmps65
  go_wp2_with (go_at_call 79; refine h.mono ?_; rintro e w' ⟨rfl, rfl⟩)
  go_ret
  exact ⟨rfl, rfl⟩
end Go.Proofs.Ytgmigdfkdioalaa
