/-
  What nat.allDigits, nat.limbOf and nat.Of answer: the number that digits are. Conditions: none beyond what each says.
  What nat.divided answers of a number that is less, and of a divisor of one limb; what nat.Div answers, if nat.divided does; and that heads holds. Conditions: the numbers have at most 2^45 limbs.
  What must come at any rate comes: heads answers true. No condition.
-/
import Derived.Test.YtpgdabpohbmodaaDoorNB
import Derived.Laws.AppendOwnNone
namespace Go.Proofs.YtpgdabpohbmodaaDoor
open Go.RowKit

/-- The byte at a place of a text, and the digit. -/
def chr (s : ByteArray) (i : Nat) : Int := if h : i < s.size then ((s[i]'h).toNat : Int) else 0
def Digits (s : ByteArray) : Prop := ∀ i, i < s.size → 48 ≤ chr s i ∧ chr s i ≤ 57
/-- The number that k digits are. -/
def dec (f : Nat → Int) : Nat → Int
  | 0 => 0
  | k + 1 => dec f k * 10 + f k
def dig (s : ByteArray) : Nat → Int := fun i => chr s i - 48
theorem chr_at (s : ByteArray) (i : Nat) (h : i < s.size) : ((s[i]'h).toNat : Int) = chr s i := by simp [chr, h]

set_option maxHeartbeats 400000 in
theorem allDigits_ok (s : ByteArray) (w : World) (hs : s.size ≤ 1048576) (hd : Digits s) :
    Calls Tryd.prog 13 #[.string s] w fun e w' => e = .returned (.bool true) ∧ w = w' := by
  have HD : Hid (Digits s) := hd
  clear hd
  go_enter Tryd.func13, Tryd.ntmps13
  go_wp2
  go_loop [6] (fun i => ∃ k : Nat, k ≤ s.size ∧ i = .int .i64 k) (fun i => s.size - (intOf i).toNat)
  case atStart => exact ⟨0, Nat.zero_le _, rfl⟩
  case round =>
    obtain ⟨k, hk, rfl⟩ := hrel
    by_cases hlt : k < s.size
    · have hI : (k : Int) < (s.size : Int) := by omega
      have hx := chr_at s k hlt
      have hb := HD.out k hlt
      generalize chr s k = x at *
      go_wp2
      go_round
      case rel => exact ⟨k + 1, by omega, by go_num⟩
      case measure => simp [intOf]; omega
    · have e : k = s.size := by omega
      subst e
      go_wp2
      go_ret
      exact ⟨rfl, rfl⟩

theorem dec_bd (f : Nat → Int) (k : Nat) (h : ∀ i, i < k → 0 ≤ f i ∧ f i ≤ 9) : 0 ≤ dec f k ∧ dec f k < 10 ^ k := by
  induction k with
  | zero => simp [dec]
  | succ k ih =>
    have h1 := ih (fun i hi => h i (by omega))
    have h2 := h k (by omega)
    rw [Int.pow_succ]
    unfold dec
    omega
theorem dec_bd9 (f : Nat → Int) (k : Nat) (hk : k ≤ 9) (h : ∀ i, i < k → 0 ≤ f i ∧ f i ≤ 9) : 0 ≤ dec f k ∧ dec f k < 1000000000 := by
  have h1 := dec_bd f k h
  have h2 : (10 : Int) ^ k ≤ 10 ^ 9 := by
    match k, hk with
    | 0, _ => decide
    | 1, _ => decide
    | 2, _ => decide
    | 3, _ => decide
    | 4, _ => decide
    | 5, _ => decide
    | 6, _ => decide
    | 7, _ => decide
    | 8, _ => decide
    | 9, _ => decide
  exact ⟨h1.1, by omega⟩
theorem dec_split (f : Nat → Int) (a b : Nat) : dec f (a + b) = dec f a * 10 ^ b + dec (fun i => f (a + i)) b := by
  induction b with
  | zero => simp [dec]
  | succ b ih =>
    show dec f (a + b) * 10 + f (a + b) = _
    rw [ih, Int.pow_succ]
    show _ = dec f a * (10 ^ b * 10) + (dec (fun i => f (a + i)) b * 10 + f (a + b))
    rw [Int.add_mul, Int.mul_assoc]; omega

set_option maxHeartbeats 400000 in
theorem limbOf_any (s : ByteArray) (w : World) (hs : s.size ≤ 9) (hd : Digits s) :
    Calls Tryd.prog 14 #[.string s] w fun e w' => e = .returned (.int .u32 (dec (dig s) s.size)) ∧ w = w' := by
  have HD : Hid (Digits s) := hd
  clear hd
  go_enter Tryd.func14, Tryd.ntmps14
  go_wp2
  go_loop [3, 7] (fun l i => ∃ k : Nat, k ≤ s.size ∧ i = .int .i64 k ∧ l = .int .u32 (dec (dig s) k)) (fun _ i => s.size - (intOf i).toNat)
  case atStart => exact ⟨0, Nat.zero_le _, rfl, rfl⟩
  case round =>
    obtain ⟨k, hk, rfl, rfl⟩ := hrel
    have hbs := dec_bd (dig s) k (fun i hi => by have := HD.out i (by omega); unfold dig; omega)
    have hbs2 := dec_bd9 (dig s) k (by omega) (fun i hi => by have := HD.out i (by omega); unfold dig; omega)
    by_cases hlt : k < s.size
    · have hI : (k : Int) < (s.size : Int) := by omega
      have hx := chr_at s k hlt
      have hb := HD.out k hlt
      have hb3 := dec_bd9 (dig s) (k + 1) (by omega) (fun i hi => by have := HD.out i (by omega); unfold dig; omega)
      have HE : Hid (dec (dig s) (k + 1) = dec (dig s) k * 10 + (chr s k - 48)) := rfl
      rw [HE.out] at hb3
      generalize chr s k = x at *
      generalize dec (dig s) k = y at *
      clear hbs
      go_wp2
      go_round
      case rel => exact ⟨k + 1, by omega, by go_num, by rw [HE.out]⟩
      case measure => simp [intOf]; omega
    · have e : k = s.size := by omega
      subst e
      clear hbs
      go_wp2
      go_ret
      exact ⟨rfl, rfl⟩

/-- A part of a text. -/
theorem chr_extract (s : ByteArray) (a b i : Nat) (hb : b ≤ s.size) (hi : i < b - a) : chr (s.extract a b) i = chr s (a + i) := by
  have h1 : i < (s.extract a b).size := by rw [ByteArray.size_extract]; omega
  have h2 : a + i < s.size := by omega
  unfold chr
  rw [dif_pos h1, dif_pos h2]
  rw [ByteArray.getElem_extract]
theorem dig_extract (s : ByteArray) (a b : Nat) (hb : b ≤ s.size) (hd : Digits s) : Digits (s.extract a b) ∧ ∀ i, i < b - a → dig (s.extract a b) i = dig s (a + i) := by
  refine ⟨fun i hi => ?_, fun i hi => ?_⟩
  · rw [ByteArray.size_extract] at hi
    rw [chr_extract s a b i hb (by omega)]
    exact hd (a + i) (by omega)
  · unfold dig; rw [chr_extract s a b i hb hi]
theorem dec_congr (f g : Nat → Int) (k : Nat) (h : ∀ i, i < k → f i = g i) : dec f k = dec g k := by
  induction k with
  | zero => rfl
  | succ k ih => unfold dec; rw [ih (fun i hi => h i (by omega)), h k (by omega)]
/-- One limb off the end. -/
theorem dec_limb (f : Nat → Int) (e : Nat) : dec f e = dec f (e - 9) * 1000000000 + dec (fun i => f (e - 9 + i)) (e - (e - 9)) := by
  by_cases h : 9 ≤ e
  · have h1 := dec_split f (e - 9) 9
    rw [show e - 9 + 9 = e by omega] at h1
    rw [show e - (e - 9) = 9 by omega]
    exact h1
  · rw [show e - 9 = 0 by omega]
    simp [dec]
/-- What the loop of nat.Of has, at its head. -/
def OfRel (s : ByteArray) (w : World) (v t : Value) (wr : World) : Prop :=
  ∃ (k e : Nat) (E : Int) (g : Nat → Int), t = .int .i64 E ∧ e ≤ s.size ∧ ((E = e ∧ 0 < e) ∨ (E ≤ 0 ∧ -9 ≤ E ∧ e = 0)) ∧ k + e ≤ s.size ∧ All9 g ∧ wr.ownsRow w.heap.size 39 1 v k (vals k g) ∧ dec (dig s) s.size = dec (dig s) e * pw k + val g k ∧ Below w.heap.size w wr
theorem vals_snoc (k : Nat) (g : Nat → Int) (x : Int) : vals k g ++ [.int .u32 x] = vals (k + 1) (upd g k x) := by
  unfold vals
  rw [List.range_succ, List.map_append]
  congr 1
  · apply List.map_congr_left
    intro i hi
    rw [List.mem_range] at hi
    simp [upd, show ¬ i = k by omega]
  · simp [upd]
theorem OfRel_next (s : ByteArray) (w : World) (v v' : Value) (w2 w3 : World) (o : Obj) (k e : Nat) (g : Nat → Int) (hd : Digits s) (he : e ≤ s.size) (h0 : 0 < e) (hke : k + e ≤ s.size) (h9 : All9 g)
    (hown2 : w2.ownsRow w.heap.size 39 1 v k (vals k g)) (hv : dec (dig s) s.size = dec (dig s) e * pw k + val g k) (hb : Below w.heap.size w w2)
    (hown : w3.ownsRow w.heap.size 39 1 v' (k + 1) (vals k g ++ [.int .u32 (dec (fun i => dig s (e - 9 + i)) (e - (e - 9)))])) (hgrow : (w2.alloc o).grownBy w3 v.ownBlock) : OfRel s w v' (.int .i64 ((e : Int) - 9)) w3 := by
  have hbd := dec_bd9 (fun i => dig s (e - 9 + i)) (e - (e - 9)) (by omega) (fun i hi => by have := hd (e - 9 + i) (by omega); unfold dig; omega)
  have hl := dec_limb (dig s) e
  generalize dec (fun i => dig s (e - 9 + i)) (e - (e - 9)) = D at *
  rw [vals_snoc] at hown
  refine ⟨k + 1, e - 9, (e : Int) - 9, upd g k D, rfl, by omega, ?_, by omega, upd_all h9 k D hbd.1 hbd.2, hown, ?_, ?_⟩
  · by_cases z : 9 < e
    · exact .inl ⟨by omega, by omega⟩
    · exact .inr ⟨by omega, by omega, by omega⟩
  · rw [hv, hl, val_succ, val_congr (f := upd g k D) (g := g) (fun i hi => by simp [upd, show ¬ i = k by omega]), pw_succ, Int.add_mul, Int.mul_assoc, Int.mul_comm 1000000000]
    simp [upd]; omega
  · exact (hb.alloc hb.size o).grown hgrow (by simp; have := hb.size; omega) (fun j hj => (hown2.lt j hj).1)
theorem cell_one_new (w : World) (x : Int) : ∀ j u, [Value.int .u32 x][j]? = some u → (w.alloc (.cells #[.int .u32 x] 39)).cell? ((⟨w.heap.size, 0, none⟩ : Addr).add j) = some u := by
  intro j u hj
  match j, hj with
  | 0, hj => simp at hj; subst hj; simp [Addr.add]
theorem row_of_owns {w : World} {B k : Nat} {v : Value} {g : Nat → Int} (h : w.ownsRow B 39 1 v k (vals k g)) (h9 : All9 g) : Row w v k g := by
  rcases h.2 with ⟨rfl, h0⟩ | ⟨b, cap, cur, rfl, hb, hg, hc, hm, hs, ht⟩
  · exact .inl ⟨h0, none, 0, rfl, fun _ => rfl⟩
  · refine .inr ⟨b, 0, cap, rfl, hc, hm, ⟨fun i hi => ?_, fun i => (h9 i).1, fun i => by have := (h9 i).2; omega⟩⟩
    rw [Nat.zero_add, h.cellAt i (by omega), vals_get k g i hi]

set_option maxRecDepth 100000 in
set_option maxHeartbeats 800000 in
theorem of_ok (s : ByteArray) (w : World) (h1 : 1 ≤ s.size) (h2 : s.size ≤ 1048576) (hd : Digits s) :
    Calls Tryd.prog 5 #[.string s] w fun e w' => ∃ r, e = .returned (.tuple #[r, .int .i64 0]) ∧ Num w' r (dec (dig s) s.size) ∧ Below w.heap.size w w' := by
  obtain ⟨i0, hi, hz0, hz1, hz2⟩ := info_parts info46
  have ha := allDigits_ok s w h2 hd
  have hmk : (Instr.makeSlice 22 (.int .i64 0) (.int .i64 ((s.size : Int) / 9 + 1))).run Tryd.prog w = .ok (.slice (some ⟨w.heap.size, 0, none⟩) 0 (s.size / 9 + 1)) (w.alloc (.cells (madeCells #[.int .u32 0] (s.size / 9 + 1)) 39)) := by
    have := run_make (P := Tryd.prog) w 22 39 i0 (.int .u32 0) Tryd.underlying22 hi hz0 .i64 .i64 0 ((s.size : Int) / 9 + 1) (by omega) (by omega) (by rw [hz2]; omega) (by omega)
    rw [hz1, show ((s.size : Int) / 9 + 1).toNat = s.size / 9 + 1 by omega] at this
    simpa [Value.cells] using this
  have hok : (w.alloc (.cells (madeCells #[.int .u32 0] (s.size / 9 + 1)) 39)).ownsRow w.heap.size 39 1 (.slice (some ⟨w.heap.size, 0, none⟩) 0 (s.size / 9 + 1)) 0 [] :=
    World.ownsRow_made w _ _ (Nat.le_refl _) (by unfold maxLen; omega) (by have := size_madeCells #[Value.int .u32 0] ((s.size / 9 + 1) * 1); simpa using this)
  have HS : Hid (OfRel s w (.slice (some ⟨w.heap.size, 0, none⟩) 0 (s.size / 9 + 1)) (.int .i64 s.size) (w.alloc (.cells (madeCells #[.int .u32 0] (s.size / 9 + 1)) 39))) :=
    ⟨0, s.size, s.size, fun _ => 0, rfl, Nat.le_refl _, .inl ⟨rfl, by omega⟩, by omega, fun _ => (by decide : (0 : Int) ≤ 0 ∧ (0 : Int) < 1000000000), hok, by rw [pw_zero, val_zero]; omega, one_below w _⟩
  have HD : Hid (Digits s) := hd
  have n0 : ((s.size : Int) == 0) = false := beq_eq_false_iff_ne.2 (by omega)
  clear hd hok
  go_enter Tryd.func5, Tryd.ntmps5
  go_wp2_with (go_at_call 13; refine ha.mono ?_; rintro e w' ⟨rfl, rfl⟩)
  clear hmk ha
  go_loopw [4, 5] (fun v t wr => OfRel s w v t wr) (fun _ t _ => (intOf t).toNat)
  case atStart => exact HS.out
  case round =>
    obtain ⟨k, e, E, g, rfl, he, hE, hke, h9, hown, hv, hb⟩ := hrel
    by_cases hlt : 0 < e
    · obtain rfl : E = e := by omega
      have hz := hb.size
      have hx := dig_extract s (e - 9) e he HD.out
      have hl := limbOf_any (s.extract (e - 9) e) wr (by rw [ByteArray.size_extract]; omega) hx.1
      rw [show (s.extract (e - 9) e).size = e - (e - 9) by rw [ByteArray.size_extract]; omega, dec_congr _ (fun i => dig s (e - 9 + i)) _ (fun i hi => hx.2 i hi)] at hl
      have hbd := dec_bd9 (fun i => dig s (e - 9 + i)) (e - (e - 9)) (by omega) (fun i hi => by have := HD.out (e - 9 + i) (by omega); unfold dig; omega)
      have HN := fun v' w3 o h1 h2 => OfRel_next s w u4 v' wr w3 o k e g HD.out he hlt hke h9 hown hv hb h1 h2
      clear hv hx
      generalize dec (fun i => dig s (e - 9 + i)) (e - (e - 9)) = D at *
      by_cases h9e : 9 < e
      · have i1 : (0 : Int) < (e : Int) - 9 := by omega
        have ez : ((e : Int) - 9).toNat = e - 9 := by omega
        go_wp2_with (first | (go_at_call 14; refine hl.mono ?_; rintro e w' ⟨rfl, rfl⟩) | (at_builtin; refine wpList_append_own _ rfl _ _ 22 rfl w.heap.size 39 i0 (.int .u32 0) 1 4 Tryd.underlying22 hi hz0 hz1 hz2 rfl (by decide) _ _ _ rfl (hown.alloc _) ⟨wr.heap.size, 0, none⟩ 1 1 [.int .u32 D] rfl rfl (cell_one_new _ _) (by intro u hu; simp at hu; subst hu; rfl) (by unfold maxLen; omega) (by omega) (by simp; omega) ?_))
        · intro v' w3 hown3 hgrow3 _
          have HR : Hid (OfRel s w v' (.int .i64 ((e : Int) - 9)) w3) := HN v' w3 _ hown3 hgrow3
          clear HN hown3 hgrow3 hown hl
          go_wp2
          go_roundw
          case rel => exact HR.out
          case measure => simp [intOf]; omega
      · have i1 : ¬ (0 : Int) < (e : Int) - 9 := by omega
        have ez : e - 9 = 0 := by omega
        rw [ez] at hl
        go_wp2_with (first | (go_at_call 14; refine hl.mono ?_; rintro e w' ⟨rfl, rfl⟩) | (at_builtin; refine wpList_append_own _ rfl _ _ 22 rfl w.heap.size 39 i0 (.int .u32 0) 1 4 Tryd.underlying22 hi hz0 hz1 hz2 rfl (by decide) _ _ _ rfl (hown.alloc _) ⟨wr.heap.size, 0, none⟩ 1 1 [.int .u32 D] rfl rfl (cell_one_new _ _) (by intro u hu; simp at hu; subst hu; rfl) (by unfold maxLen; omega) (by omega) (by simp; omega) ?_))
        · intro v' w3 hown3 hgrow3 _
          have HR : Hid (OfRel s w v' (.int .i64 ((e : Int) - 9)) w3) := HN v' w3 _ hown3 hgrow3
          clear HN hown3 hgrow3 hown hl
          go_wp2
          go_roundw
          case rel => exact HR.out
          case measure => simp [intOf]; omega
    · have e0 : e = 0 := by omega
      subst e0
      have hE2 : E ≤ 0 := by omega
      have ht := trimmed_any _ k g wr (row_of_owns hown h9)
      have HV : Hid (val g k = dec (dig s) s.size) := by show val g k = _; rw [hv]; simp [dec]
      have H9 : Hid (All9 g) := h9
      clear hown hv h9
      go_wp2_with fail
      refine ht.mono ?_
      rintro e w' ⟨r, rfl, hr, rfl⟩
      clear ht
      go_wp2
      go_ret2
      exact ⟨_, rfl, num_of_trim H9.out hr HV.out, hb⟩
end Go.Proofs.YtpgdabpohbmodaaDoor

namespace Go.Proofs.YtpgdabpohbmodaaDoor
open Go.RowKit

theorem add_at (b off j : Nat) : (⟨b, off, none⟩ : Addr).add j = ⟨b, off + j, none⟩ := by
  simp only [Addr.add]; split
  · simp_all
  · rfl
/-- 'append(x, y...)', x of the call's own, y a slice of limbs. -/
theorem wpList_append_row {w : World} {ops : Array Oper} {rest : List Oper} {o : Oper} {a : Act} {Q : Exit → Act → World → Prop} (hgd : o.guard = none) (s x : Operand)
    (ho : o.op = .call { callee := .builtin .append, args := #[s, x], argTypes := #[22, 22] }) (base : Nat) (v : Value) (n : Nat) (xs : List Value) (hs : a.eval s = v) (hown : w.ownsRow base 39 1 v n xs)
    (v1 : Value) (m : Nat) (g : Nat → Int) (hx : a.eval x = v1) (hR : Row w v1 m g) (hb : (n + m) * 4 ≤ 140737488355328) (hbase : base ≤ w.heap.size)
    (h : ∀ v' w', w'.ownsRow base 39 1 v' (n + m) (xs ++ vals m g) → w.grownBy w' v.ownBlock → wpList Tryd.prog ops Q rest (a.put o.dst v') w') : wpList Tryd.prog ops Q (o :: rest) a w := by
  obtain ⟨i0, hi, hz0, hz1, hz2⟩ := info_parts info46
  rcases hR with ⟨rfl, ad, cap, rfl, hn⟩ | ⟨b, off, cap, rfl, hc, hm, hL⟩
  · rcases ad with _ | ad
    · have hc := hn rfl
      subst hc
      refine wpList_append_own_none hgd s x 22 ho base 39 i0 1 Tryd.underlying22 hi v n xs hs hown hx (h v w (by simpa [vals] using hown) ?_)
      exact ⟨rfl, rfl, rfl, Nat.le_refl _, fun _ _ _ => rfl⟩
    · refine wpList_append_own _ hgd s x 22 ho base 39 i0 (.int .u32 0) 1 4 Tryd.underlying22 hi hz0 hz1 hz2 rfl (by decide) v n xs hs hown ad 0 cap [] hx rfl (fun j u hj => by simp at hj) (fun u hu => by simp at hu) (by unfold maxLen; omega) (by omega) hbase ?_
      intro v' w' h1 h2 _
      exact h v' w' (by simpa [vals] using h1) h2
  · refine wpList_append_own _ hgd s x 22 ho base 39 i0 (.int .u32 0) 1 4 Tryd.underlying22 hi hz0 hz1 hz2 rfl (by decide) v n xs hs hown ⟨b, off, none⟩ m cap (vals m g) hx (by rw [vals_length]; omega) (fun j u hj => ?_) (fun u hu => ?_) (by unfold maxLen; omega) (by omega) hbase ?_
    · have hlt : j < m := by have := (List.getElem?_eq_some_iff.1 hj).1; rwa [vals_length] at this
      rw [vals_get _ _ _ hlt] at hj
      rw [add_at, hL.cell j hlt, hj]
    · simp only [vals, List.mem_map] at hu
      obtain ⟨i, _, rfl⟩ := hu
      rfl
    · intro v' w' h1 h2 _
      exact h v' w' h1 h2
theorem row_own {w : World} {B : Nat} {v : Value} {len : Nat} {f : Nat → Int} (lo : ∀ i, 0 ≤ f i) (hi : ∀ i, f i < 4294967296) (h : w.ownsRow B 39 1 v len (vals len f)) : Row w v len f := by
  rcases h.2 with ⟨rfl, h0⟩ | ⟨g, cap, cur, rfl, hb, hg, hc, hm, hs, ht⟩
  · exact .inl ⟨h0, none, 0, rfl, fun _ => rfl⟩
  · refine .inr ⟨g, 0, cap, rfl, hc, hm, ⟨fun i hi => ?_, lo, hi⟩⟩
    rw [Nat.zero_add, h.cellAt i (by omega), vals_get _ _ _ hi]
/-- A row can be taken to have limbs in bounds everywhere. -/
theorem Row.bounded {w : World} {v : Value} {n : Nat} {f : Nat → Int} (h : Row w v n f) : ∃ f', Row w v n f' ∧ (∀ i, i < n → f' i = f i) ∧ (∀ i, 0 ≤ f' i) ∧ (∀ i, f' i < 4294967296) := by
  rcases h with ⟨rfl, a, cap, rfl, hn⟩ | ⟨b, off, cap, rfl, hc, hm, hL⟩
  · exact ⟨fun _ => 0, .inl ⟨rfl, a, cap, rfl, hn⟩, fun i hi => absurd hi (by omega), fun _ => (by decide : (0 : Int) ≤ 0), fun _ => (by decide : (0 : Int) < 4294967296)⟩
  · exact ⟨f, .inr ⟨b, off, cap, rfl, hc, hm, hL⟩, fun _ _ => rfl, hL.lo, hL.hi⟩

/-- Quotient and rest. -/
def Divides (w : World) (rq rr : Value) (A B : Int) : Prop := ∃ Q R, Num w rq Q ∧ Num w rr R ∧ A = Q * B + R ∧ 0 ≤ R ∧ R < B

set_option maxHeartbeats 400000 in
theorem divided_less (v0 v1 : Value) (n m : Nat) (f g : Nat → Int) (w : World) (h0 : Row w v0 n f) (h1 : Row w v1 m g) (hf : Can n f) (hg : Can m g) (hn : n ≤ 35184372088832) (hlt : val f n < val g m) :
    Calls Tryd.prog 27 #[v0, v1] w fun e w' => ∃ rq, ∃ rr, e = .returned (.tuple #[rq, rr]) ∧ Divides w' rq rr (val f n) (val g m) ∧ Below w.heap.size w w' := by
  have hc := compared_any v0 v1 n m f g w h0 h1 hf hg
  have hl : decide (cmpI (val f n) (val g m) < 0) = true := by rw [cmpI_lt]; exact decide_eq_true hlt
  obtain ⟨f', h0', he, lo, up⟩ := h0.bounded
  have hf' : Can n f' := ⟨fun i hi => by rw [he i hi]; exact hf.1 i hi, fun h => by rw [he (n - 1) (by omega)]; exact hf.2 h⟩
  have ev : val f' n = val f n := val_congr he
  have pos := val_nonneg hf.1
  obtain ⟨a, cap, rfl, _⟩ := h0.shape
  obtain ⟨a', cap', rfl, _⟩ := h1.shape
  clear h0 h1 hf hg he
  generalize val g m = B at *
  generalize val f n = A at *
  generalize cmpI A B = C at *
  go_enter Tryd.func27, Tryd.ntmps27
  go_wp2_with fail
  refine hc.mono ?_
  rintro e w' ⟨rfl, q, rfl⟩
  have hA : Row ((w.drewN q).alloc (.cells #[] 39)) (.slice a n cap) n f' := (h0'.drewN q).alloc _
  have hbl : Below w.heap.size w ((w.drewN q).alloc (.cells #[] 39)) := (below_drewN (Below.refl _ _) q).alloc (by simp) _
  have hok : ((w.drewN q).alloc (.cells #[] 39)).ownsRow w.heap.size 39 1 (.slice (some ⟨w.heap.size, 0, none⟩) 0 0) 0 [] := World.ownsRow_made (w.drewN q) #[] 0 (by simp) (by simp [maxLen]) rfl
  clear hc h0'
  go_wp2_with (at_builtin; refine wpList_append_row rfl (.tmp 11) (.tmp 12) rfl w.heap.size _ _ _ rfl hok _ n f' rfl hA ?_ ?_ ?_)
  · omega
  · simp
  · intro v' w2 hown2 hgrow2
    have hb2 : Below w.heap.size w w2 := hbl.grown hgrow2 (by simp) (fun j hj => (hok.lt j hj).1)
    have hr : Num w2 v' A := ⟨n, f', row_own lo up (by simpa using hown2), hf', ev⟩
    clear hA hok hbl hgrow2 hown2
    go_wp2
    go_ret2
    exact ⟨_, _, rfl, ⟨0, A, num_nil w2, hr, by omega, by omega, hlt⟩, hb2⟩

set_option maxHeartbeats 400000 in
theorem divided_limb (v0 v1 : Value) (n : Nat) (f g : Nat → Int) (w : World) (h0 : Row w v0 n f) (h1 : Row w v1 1 g) (hf : Can n f) (hg : Can 1 g) (hn : n ≤ 35184372088832) (hle : val g 1 ≤ val f n) :
    Calls Tryd.prog 27 #[v0, v1] w fun e w' => ∃ rq, ∃ rr, e = .returned (.tuple #[rq, rr]) ∧ Divides w' rq rr (val f n) (val g 1) ∧ Below w.heap.size w w' := by
  have hc := compared_any v0 v1 n 1 f g w h0 h1 hf hg
  have hl : decide (cmpI (val f n) (val g 1) < 0) = false := by rw [cmpI_lt]; exact decide_eq_false (by omega)
  have eg : val g 1 = g 0 := by simp [val, pw_zero]
  have bg := hg.1 0 (by omega)
  have gz := hg.2 (by omega)
  simp only [Nat.sub_self] at gz
  have hd := fun q => byLimb_any v0 n f (g 0) (w.drewN q) (h0.drewN q) hf.1 (by omega) bg.2 (by omega)
  rw [eg] at hc hl ⊢
  obtain ⟨a, cap, rfl, _⟩ := h0.shape
  obtain ⟨b', off', cap', rfl, _, _, hL'⟩ := h1.lies (by omega)
  have c1 := hL'.cell 0 (by omega)
  rw [Nat.add_zero] at c1
  clear h0 h1 hf hg hL' hle eg
  generalize g 0 = y at *
  generalize cmpI (val f n) y = C at *
  go_enter Tryd.func27, Tryd.ntmps27
  go_wp2_with fail
  refine hc.mono ?_
  rintro e w' ⟨rfl, q, rfl⟩
  have hd := hd q
  go_wp2_with fail
  refine hd.mono ?_
  rintro e w' ⟨rq, rr, rfl, hr, hb⟩
  clear hd hc
  go_wp2
  go_ret2
  exact ⟨_, _, rfl, hr, (below_drewN (Below.refl _ _) q).trans hb⟩

set_option maxHeartbeats 400000 in
theorem div_ok (v0 v1 : Value) (A B : Int) (n m : Nat) (f g : Nat → Int) (w : World) (h0 : Row w v0 n f) (h1 : Row w v1 m g) (hf : Can n f) (hg : Can m g) (h0m : 0 < m)
    (hd0 : ∀ w, Row w v0 n f → Row w v1 m g → Calls Tryd.prog 27 #[v0, v1] w fun e w' => ∃ rq, ∃ rr, e = .returned (.tuple #[rq, rr]) ∧ Divides w' rq rr A B ∧ Below w.heap.size w w') :
    Calls Tryd.prog 19 #[v0, v1] w fun e w' => ∃ rq, ∃ rr, e = .returned (.tuple #[rq, rr, .int .i64 0]) ∧ Divides w' rq rr A B ∧ Below w.heap.size w w' := by
  have hk := (checked_new v0 v1 n m f g w h0 h1).1 hf hg
  have hs := hd0 _ (h0.alloc (.cells #[v0, v1] 22)) (h1.alloc _)
  obtain ⟨a, cap, rfl, _⟩ := h0.shape
  obtain ⟨a', cap', rfl, _⟩ := h1.shape
  have hI : ((m : Int) == 0) = false := beq_eq_false_iff_ne.2 (by omega)
  clear h0 h1 hf hg hd0
  go_enter Tryd.func19, Tryd.ntmps19
  go_wp2_with fail
  refine hk.mono ?_
  rintro e w' ⟨rfl, rfl⟩
  go_wp2_with fail
  refine hs.mono ?_
  rintro e w' ⟨rq, rr, rfl, hr, hbl⟩
  clear hs hk
  go_wp2
  go_ret3
  exact ⟨_, _, rfl, hr, below_from_alloc hbl⟩

set_option maxHeartbeats 400000 in
theorem div_zero (v0 v1 : Value) (n : Nat) (f g : Nat → Int) (w : World) (h0 : Row w v0 n f) (h1 : Row w v1 0 g) (hf : Can n f) :
    Calls Tryd.prog 19 #[v0, v1] w fun e w' => e = .returned (.tuple #[.slice none 0 0, .slice none 0 0, .int .i64 20]) ∧ Below w.heap.size w w' := by
  have hk := (checked_new v0 v1 n 0 f g w h0 h1).1 hf ⟨fun i hi => absurd hi (by omega), fun h => absurd h (by omega)⟩
  obtain ⟨a, cap, rfl, _⟩ := h0.shape
  obtain ⟨a', cap', rfl, _⟩ := h1.shape
  have hb : Below w.heap.size w (w.alloc (.cells #[.slice a n cap, .slice a' 0 cap'] 22)) := one_below w _
  clear h0 h1 hf
  go_enter Tryd.func19, Tryd.ntmps19
  go_wp2_with fail
  refine hk.mono ?_
  rintro e w' ⟨rfl, rfl⟩
  go_wp2
  go_ret3
  exact ⟨rfl, hb⟩
end Go.Proofs.YtpgdabpohbmodaaDoor

namespace Go.Proofs.YtpgdabpohbmodaaDoor
open Go.RowKit

def sT : ByteArray := { data := #[49, 48, 48, 48, 48, 48, 48, 48, 48, 48] }
theorem sT_digits : Digits sT := by
  intro i hi
  have h : i < 10 := hi
  match i, h with
  | 0, _ => exact ⟨by decide, by decide⟩
  | 1, _ => exact ⟨by decide, by decide⟩
  | 2, _ => exact ⟨by decide, by decide⟩
  | 3, _ => exact ⟨by decide, by decide⟩
  | 4, _ => exact ⟨by decide, by decide⟩
  | 5, _ => exact ⟨by decide, by decide⟩
  | 6, _ => exact ⟨by decide, by decide⟩
  | 7, _ => exact ⟨by decide, by decide⟩
  | 8, _ => exact ⟨by decide, by decide⟩
  | 9, _ => exact ⟨by decide, by decide⟩
theorem sT_dec : dec (dig sT) sT.size = 1000000000 := by decide

theorem can_one {x : Int} (x0 : 0 < x) (x1 : x < 1000000000) : Can 1 (fun _ => x) := ⟨fun _ _ => ⟨by show 0 ≤ x; omega, x1⟩, fun _ => by show x ≠ 0; omega⟩
theorem val_one (x : Int) : val (fun _ => x) 1 = x := by simp [val, pw_zero]
theorem num_lit1 (w : World) (x : Int) (x0 : 0 < x) (x1 : x < 1000000000) : Num (w.alloc (.cells #[.int .u32 x] 39)) (.slice (some ⟨w.heap.size, 0, none⟩) 1 1) x :=
  ⟨1, _, num_one w x (by omega) x1, can_one x0 x1, val_one x⟩
def two (x y : Int) : Nat → Int := fun i => if i = 0 then x else y
theorem num_lit2 (w : World) (x y : Int) (x0 : 0 ≤ x) (x1 : x < 1000000000) (y0 : 0 < y) (y1 : y < 1000000000) : Num (w.alloc (.cells #[.int .u32 x, .int .u32 y] 39)) (.slice (some ⟨w.heap.size, 0, none⟩) 2 2) (x + y * 1000000000) := by
  have bd : ∀ i, 0 ≤ two x y i ∧ two x y i < 1000000000 := fun i => by unfold two; split <;> omega
  refine ⟨2, two x y, .inr ⟨_, 0, 2, rfl, Nat.le_refl _, by simp [maxLen], ⟨fun i hi => ?_, fun i => (bd i).1, fun i => by have := (bd i).2; omega⟩⟩, ⟨fun i _ => bd i, fun _ => ?_⟩, ?_⟩
  · match i, hi with
    | 0, _ => simp [two]
    | 1, _ => simp [two]
  · show two x y 1 ≠ 0
    simp [two]; omega
  · simp [val, two, pw]
/-- A number below the worth of a place has no more limbs. -/
theorem can_le {n k : Nat} {f : Nat → Int} (h : Can n f) (hv : val f n < pw k) : n ≤ k := by
  by_cases z : n ≤ k
  · exact z
  · have h1 := can_ge h (by omega)
    have h2 := pw_mono (show k ≤ n - 1 by omega)
    omega

set_option maxHeartbeats 800000 in
theorem heads_any (w : World) : Calls Tryd.prog 12 #[] w fun e w' => e = .returned (.bool true) ∧ Below w.heap.size w w' := by
  have hO := of_ok sT w (by decide) (by decide) sT_digits
  rw [sT_dec] at hO
  have hOf : Calls Tryd.prog 5 #[.string { data := #[49, 48, 48, 48, 48, 48, 48, 48, 48, 48] }] w fun e w' => ∃ r, e = .returned (.tuple #[r, .int .i64 0]) ∧ Num w' r 1000000000 ∧ Below w.heap.size w w' := hO
  clear hO
  go_enter Tryd.func12, Tryd.ntmps12
  go_wp2_with fail
  refine hOf.mono ?_
  rintro e w1 ⟨ra, rfl, hA1, b1⟩
  clear hOf
  have z1 := b1.size
  have bb1 : Below w.heap.size w (w1.alloc (.cells #[.int .u32 999999999] 39)) := b1.alloc z1 _
  have bb2 : Below w.heap.size w ((w1.alloc (.cells #[.int .u32 999999999] 39)).alloc (.cells #[.int .u32 999999999] 39)) := bb1.alloc bb1.size _
  have r1 := (num_one w1 999999999 (by omega) (by omega)).alloc (.cells #[.int .u32 999999999] 39)
  have r2 := num_one (w1.alloc (.cells #[.int .u32 999999999] 39)) 999999999 (by omega) (by omega)
  have hs1 : (w1.alloc (.cells #[.int .u32 999999999] 39)).heap.size = w1.heap.size + 1 := by simp
  rw [hs1] at r2
  have hM := mul_ok _ _ _ _ 1 1 _ _ _ r1 r2 (can_one (by omega) (by omega)) (can_one (by omega) (by omega)) (val_one _) (val_one _) (by omega) (by omega)
  have hA2 : Num ((w1.alloc (.cells #[.int .u32 999999999] 39)).alloc (.cells #[.int .u32 999999999] 39)) ra 1000000000 := (hA1.below (one_below w1 _)).below (one_below _ _)
  clear r1 r2 hA1 b1 z1 bb1 hs1
  go_wp2_with fail
  refine hM.mono ?_
  rintro e w2 ⟨rb, rfl, hB2, b2⟩
  clear hM
  have hA3 := hA2.below b2
  have b3 : Below w.heap.size w w2 := bb2.trans (b2.mono bb2.size)
  clear hA2 b2 bb2
  have z3 := b3.size
  have b4 : Below w.heap.size w (w2.alloc (.cells #[.int .u32 3] 39)) := b3.alloc z3 _
  have hA4 := hA3.below (one_below w2 (.cells #[.int .u32 3] 39))
  have hB4 := hB2.below (one_below w2 (.cells #[.int .u32 3] 39))
  have r3 := num_one w2 3 (by omega) (by omega)
  obtain ⟨n, f, rA, cA, vA⟩ := hA4
  have hn : n ≤ 2 := can_le cA (by rw [vA]; decide)
  have hD := div_ok ra _ 1000000000 3 n 1 f _ _ rA r3 cA (can_one (by omega) (by omega)) (by omega) (fun w' h1 h2 => by
    have := divided_limb ra _ n f _ w' h1 h2 cA (can_one (by omega) (by omega)) (by omega) (by rw [val_one, vA]; omega)
    rw [vA, val_one] at this
    exact this)
  obtain ⟨aa, acap, ea, _⟩ := rA.shape
  subst ea
  have hA4 : Hid (Row (w2.alloc (.cells #[.int .u32 3] 39)) (.slice aa n acap) n f) := rA
  have CA : Hid (Can n f) := cA
  have VA : Hid (val f n = 1000000000) := vA
  clear hA3 hB2 r3 rA cA vA
  go_wp2_with fail
  refine hD.mono ?_
  rintro e w5 ⟨rq, rr, rfl, ⟨Q, R, hQ, hR, eQ, R0, R1⟩, b5⟩
  clear hD
  obtain ⟨rfl, rfl⟩ : Q = 333333333 ∧ R = 1 := by omega
  have hA5 := hA4.out.below b5
  have hB5 := hB4.below b5
  have bb5 : Below w.heap.size w w5 := b4.trans (b5.mono b4.size)
  clear hA4 hB4 b4 b5 eQ R0 R1 b3 z3
  have hZ := div_zero _ (.slice none 0 0) n f (fun _ => 0) w5 hA5 (.inl ⟨rfl, none, 0, rfl, fun _ => rfl⟩) CA.out
  go_wp2_with fail
  refine hZ.mono ?_
  rintro e w6 ⟨rfl, b6⟩
  clear hZ
  have z5 := bb5.size
  have hA6 := hA5.below b6
  have hB6 := hB5.below b6
  have hQ6 := hQ.below b6
  have hR6 := hR.below b6
  have bb6 : Below w.heap.size w w6 := bb5.trans (b6.mono z5)
  clear hA5 hB5 hQ hR b6 bb5 z5
  have r0 := num_one w6 0 (by omega) (by omega)
  have hX := add_bad _ (.slice none 0 0) 1 0 _ (fun _ => 0) _ r0 (.inl ⟨rfl, none, 0, rfl, fun _ => rfl⟩) (fun h => h.1.2 (by omega) rfl)
  clear r0
  go_wp2_with fail
  refine hX.mono ?_
  rintro e w7 ⟨rfl, b7⟩
  clear hX
  have o7 := one_below w6 (.cells #[.int .u32 0] 39)
  have b7 : Below w6.heap.size w6 w7 := o7.trans (b7.mono o7.size)
  have hA7 := hA6.below b7
  have hB7 := hB6.below b7
  have hQ7 := hQ6.below b7
  have hR7 := hR6.below b7
  have bb7 : Below w.heap.size w w7 := bb6.trans (b7.mono bb6.size)
  clear hA6 hB6 hQ6 hR6 b7 o7 bb6
  have NA7 : Num w7 (.slice aa n acap) 1000000000 := ⟨n, f, hA7, CA.out, VA.out⟩
  have s1 := same_num _ _ 1000000000 _ (NA7.below (one_below w7 (.cells #[.int .u32 0, .int .u32 1] 39))) (by have := num_lit2 w7 0 1 (by omega) (by omega) (by omega) (by omega); simpa using this)
  have o8 := one_below w7 (.cells #[.int .u32 0, .int .u32 1] 39)
  have hB8 := hB7.below o8
  have hQ8 := hQ7.below o8
  have hR8 := hR7.below o8
  have bb8 : Below w.heap.size w (w7.alloc (.cells #[.int .u32 0, .int .u32 1] 39)) := bb7.trans (o8.mono bb7.size)
  clear hA7 NA7 hB7 hQ7 hR7 o8 bb7 CA VA
  go_wp2_with fail
  refine s1.mono ?_
  rintro e w8 ⟨rfl, b8⟩
  clear s1
  have hB9 := hB8.below b8
  have hQ9 := hQ8.below b8
  have hR9 := hR8.below b8
  have bb9 : Below w.heap.size w w8 := bb8.trans (b8.mono bb8.size)
  clear hB8 hQ8 hR8 b8 bb8
  have o9 := one_below w8 (.cells #[.int .u32 1, .int .u32 999999998] 39)
  have s2 := same_num _ _ 999999998000000001 _ (hB9.below o9) (by have := num_lit2 w8 1 999999998 (by omega) (by omega) (by omega) (by omega); simpa using this)
  have hQ10 := hQ9.below o9
  have hR10 := hR9.below o9
  have bb10 : Below w.heap.size w (w8.alloc (.cells #[.int .u32 1, .int .u32 999999998] 39)) := bb9.trans (o9.mono bb9.size)
  clear hB9 hQ9 hR9 o9 bb9
  go_wp2_with fail
  refine s2.mono ?_
  rintro e w9 ⟨rfl, b9⟩
  clear s2
  have hQ11 := hQ10.below b9
  have hR11 := hR10.below b9
  have bb11 : Below w.heap.size w w9 := bb10.trans (b9.mono bb10.size)
  clear hQ10 hR10 b9 bb10
  have o11 := one_below w9 (.cells #[.int .u32 333333333] 39)
  have s3 := same_num _ _ 333333333 _ (hQ11.below o11) (num_lit1 w9 333333333 (by omega) (by omega))
  have hR12 := hR11.below o11
  have bb12 : Below w.heap.size w (w9.alloc (.cells #[.int .u32 333333333] 39)) := bb11.trans (o11.mono bb11.size)
  clear hQ11 hR11 o11 bb11
  go_wp2_with fail
  refine s3.mono ?_
  rintro e w10 ⟨rfl, b10⟩
  clear s3
  have hR13 := hR12.below b10
  have bb13 : Below w.heap.size w w10 := bb12.trans (b10.mono bb12.size)
  clear hR12 b10 bb12
  have o13 := one_below w10 (.cells #[.int .u32 1] 39)
  have s4 := same_num _ _ 1 _ (hR13.below o13) (num_lit1 w10 1 (by omega) (by omega))
  have bb14 : Below w.heap.size w (w10.alloc (.cells #[.int .u32 1] 39)) := bb13.trans (o13.mono bb13.size)
  clear hR13 o13 bb13
  go_wp2_with fail
  refine s4.mono ?_
  rintro e w11 ⟨rfl, b11⟩
  clear s4
  go_wp2
  go_ret
  exact ⟨rfl, bb14.trans (b11.mono bb14.size)⟩
end Go.Proofs.YtpgdabpohbmodaaDoor
