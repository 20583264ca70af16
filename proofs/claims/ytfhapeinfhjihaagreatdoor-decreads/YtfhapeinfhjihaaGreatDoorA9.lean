/-
  What nat.allDigits, nat.limbOf and nat.Of answer: the number that digits are. Conditions: none beyond what each says.
-/
import Derived.Test.YtfhapeinfhjihaaGreatDoorA8
namespace Go.Proofs.YtfhapeinfhjihaaGreatDoor
open Go.RowKit

/-- The byte at a place of a text, and the digit. -/
def chr (s : ByteArray) (i : Nat) : Int := if h : i < s.size then ((s[i]'h).toNat : Int) else 0
def Digits (s : ByteArray) : Prop := ∀ i, i < s.size → 48 ≤ chr s i ∧ chr s i ≤ 57
/-- The number that k digits are. -/
def dec (f : Nat → Int) : Nat → Int
  | 0 => 0
  | k + 1 => dec f k * 10 + f k
def dig (s : ByteArray) : Nat → Int := fun i => chr s i - 48
theorem chr_at (s : ByteArray) (i : Nat) (h : i < s.size) : ((s[i]'h).toNat : Int) = chr s i := by simp [chr, h]

set_option maxHeartbeats 400000 in
theorem allDigits_ok (s : ByteArray) (w : World) (hs : s.size ≤ 1048576) (hd : Digits s) :
    Calls Tryz.prog 43 #[.string s] w fun e w' => e = .returned (.bool true) ∧ w = w' := by
  have HD : Hid (Digits s) := hd
  clear hd
  go_enter Tryz.func43, Tryz.ntmps43
  go_wp2
  go_loop [6] (fun i => ∃ k : Nat, k ≤ s.size ∧ i = .int .i64 k) (fun i => s.size - (intOf i).toNat)
  case atStart => exact ⟨0, Nat.zero_le _, rfl⟩
  case round =>
    obtain ⟨k, hk, rfl⟩ := hrel
    by_cases hlt : k < s.size
    · have hI : (k : Int) < (s.size : Int) := by omega
      have hx := chr_at s k hlt
      have hb := HD.out k hlt
      generalize chr s k = x at *
      go_wp2
      go_round
      case rel => exact ⟨k + 1, by omega, by go_num⟩
      case measure => simp [intOf]; omega
    · have e : k = s.size := by omega
      subst e
      go_wp2
      go_ret
      exact ⟨rfl, rfl⟩

theorem dec_bd (f : Nat → Int) (k : Nat) (h : ∀ i, i < k → 0 ≤ f i ∧ f i ≤ 9) : 0 ≤ dec f k ∧ dec f k < 10 ^ k := by
  induction k with
  | zero => simp [dec]
  | succ k ih =>
    have h1 := ih (fun i hi => h i (by omega))
    have h2 := h k (by omega)
    rw [Int.pow_succ]
    unfold dec
    omega
theorem dec_bd9 (f : Nat → Int) (k : Nat) (hk : k ≤ 9) (h : ∀ i, i < k → 0 ≤ f i ∧ f i ≤ 9) : 0 ≤ dec f k ∧ dec f k < 1000000000 := by
  have h1 := dec_bd f k h
  have h2 : (10 : Int) ^ k ≤ 10 ^ 9 := by
    match k, hk with
    | 0, _ => decide
    | 1, _ => decide
    | 2, _ => decide
    | 3, _ => decide
    | 4, _ => decide
    | 5, _ => decide
    | 6, _ => decide
    | 7, _ => decide
    | 8, _ => decide
    | 9, _ => decide
  exact ⟨h1.1, by omega⟩
theorem dec_split (f : Nat → Int) (a b : Nat) : dec f (a + b) = dec f a * 10 ^ b + dec (fun i => f (a + i)) b := by
  induction b with
  | zero => simp [dec]
  | succ b ih =>
    show dec f (a + b) * 10 + f (a + b) = _
    rw [ih, Int.pow_succ]
    show _ = dec f a * (10 ^ b * 10) + (dec (fun i => f (a + i)) b * 10 + f (a + b))
    rw [Int.add_mul, Int.mul_assoc]; omega

set_option maxHeartbeats 400000 in
theorem limbOf_any (s : ByteArray) (w : World) (hs : s.size ≤ 9) (hd : Digits s) :
    Calls Tryz.prog 44 #[.string s] w fun e w' => e = .returned (.int .u32 (dec (dig s) s.size)) ∧ w = w' := by
  have HD : Hid (Digits s) := hd
  clear hd
  go_enter Tryz.func44, Tryz.ntmps44
  go_wp2
  go_loop [3, 7] (fun l i => ∃ k : Nat, k ≤ s.size ∧ i = .int .i64 k ∧ l = .int .u32 (dec (dig s) k)) (fun _ i => s.size - (intOf i).toNat)
  case atStart => exact ⟨0, Nat.zero_le _, rfl, rfl⟩
  case round =>
    obtain ⟨k, hk, rfl, rfl⟩ := hrel
    have hbs := dec_bd (dig s) k (fun i hi => by have := HD.out i (by omega); unfold dig; omega)
    have hbs2 := dec_bd9 (dig s) k (by omega) (fun i hi => by have := HD.out i (by omega); unfold dig; omega)
    by_cases hlt : k < s.size
    · have hI : (k : Int) < (s.size : Int) := by omega
      have hx := chr_at s k hlt
      have hb := HD.out k hlt
      have hb3 := dec_bd9 (dig s) (k + 1) (by omega) (fun i hi => by have := HD.out i (by omega); unfold dig; omega)
      have HE : Hid (dec (dig s) (k + 1) = dec (dig s) k * 10 + (chr s k - 48)) := rfl
      rw [HE.out] at hb3
      generalize chr s k = x at *
      generalize dec (dig s) k = y at *
      clear hbs
      go_wp2
      go_round
      case rel => exact ⟨k + 1, by omega, by go_num, by rw [HE.out]⟩
      case measure => simp [intOf]; omega
    · have e : k = s.size := by omega
      subst e
      clear hbs
      go_wp2
      go_ret
      exact ⟨rfl, rfl⟩

/-- A part of a text. -/
theorem chr_extract (s : ByteArray) (a b i : Nat) (hb : b ≤ s.size) (hi : i < b - a) : chr (s.extract a b) i = chr s (a + i) := by
  have h1 : i < (s.extract a b).size := by rw [ByteArray.size_extract]; omega
  have h2 : a + i < s.size := by omega
  unfold chr
  rw [dif_pos h1, dif_pos h2]
  rw [ByteArray.getElem_extract]
theorem dig_extract (s : ByteArray) (a b : Nat) (hb : b ≤ s.size) (hd : Digits s) : Digits (s.extract a b) ∧ ∀ i, i < b - a → dig (s.extract a b) i = dig s (a + i) := by
  refine ⟨fun i hi => ?_, fun i hi => ?_⟩
  · rw [ByteArray.size_extract] at hi
    rw [chr_extract s a b i hb (by omega)]
    exact hd (a + i) (by omega)
  · unfold dig; rw [chr_extract s a b i hb hi]
theorem dec_congr (f g : Nat → Int) (k : Nat) (h : ∀ i, i < k → f i = g i) : dec f k = dec g k := by
  induction k with
  | zero => rfl
  | succ k ih => unfold dec; rw [ih (fun i hi => h i (by omega)), h k (by omega)]
/-- One limb off the end. -/
theorem dec_limb (f : Nat → Int) (e : Nat) : dec f e = dec f (e - 9) * 1000000000 + dec (fun i => f (e - 9 + i)) (e - (e - 9)) := by
  by_cases h : 9 ≤ e
  · have h1 := dec_split f (e - 9) 9
    rw [show e - 9 + 9 = e by omega] at h1
    rw [show e - (e - 9) = 9 by omega]
    exact h1
  · rw [show e - 9 = 0 by omega]
    simp [dec]
/-- What the loop of nat.Of has, at its head. -/
def OfRel (s : ByteArray) (w : World) (v t : Value) (wr : World) : Prop :=
  ∃ (k e : Nat) (E : Int) (g : Nat → Int), t = .int .i64 E ∧ e ≤ s.size ∧ ((E = e ∧ 0 < e) ∨ (E ≤ 0 ∧ -9 ≤ E ∧ e = 0)) ∧ k + e ≤ s.size ∧ All9 g ∧ wr.ownsRow w.heap.size 76 1 v k (vals k g) ∧ dec (dig s) s.size = dec (dig s) e * pw k + val g k ∧ Below w.heap.size w wr
theorem vals_snoc (k : Nat) (g : Nat → Int) (x : Int) : vals k g ++ [.int .u32 x] = vals (k + 1) (upd g k x) := by
  unfold vals
  rw [List.range_succ, List.map_append]
  congr 1
  · apply List.map_congr_left
    intro i hi
    rw [List.mem_range] at hi
    simp [upd, show ¬ i = k by omega]
  · simp [upd]
theorem OfRel_next (s : ByteArray) (w : World) (v v' : Value) (w2 w3 : World) (o : Obj) (k e : Nat) (g : Nat → Int) (hd : Digits s) (he : e ≤ s.size) (h0 : 0 < e) (hke : k + e ≤ s.size) (h9 : All9 g)
    (hown2 : w2.ownsRow w.heap.size 76 1 v k (vals k g)) (hv : dec (dig s) s.size = dec (dig s) e * pw k + val g k) (hb : Below w.heap.size w w2)
    (hown : w3.ownsRow w.heap.size 76 1 v' (k + 1) (vals k g ++ [.int .u32 (dec (fun i => dig s (e - 9 + i)) (e - (e - 9)))])) (hgrow : (w2.alloc o).grownBy w3 v.ownBlock) : OfRel s w v' (.int .i64 ((e : Int) - 9)) w3 := by
  have hbd := dec_bd9 (fun i => dig s (e - 9 + i)) (e - (e - 9)) (by omega) (fun i hi => by have := hd (e - 9 + i) (by omega); unfold dig; omega)
  have hl := dec_limb (dig s) e
  generalize dec (fun i => dig s (e - 9 + i)) (e - (e - 9)) = D at *
  rw [vals_snoc] at hown
  refine ⟨k + 1, e - 9, (e : Int) - 9, upd g k D, rfl, by omega, ?_, by omega, upd_all h9 k D hbd.1 hbd.2, hown, ?_, ?_⟩
  · by_cases z : 9 < e
    · exact .inl ⟨by omega, by omega⟩
    · exact .inr ⟨by omega, by omega, by omega⟩
  · rw [hv, hl, val_succ, val_congr (f := upd g k D) (g := g) (fun i hi => by simp [upd, show ¬ i = k by omega]), pw_succ, Int.add_mul, Int.mul_assoc, Int.mul_comm 1000000000]
    simp [upd]; omega
  · exact (hb.alloc hb.size o).grown hgrow (by simp; have := hb.size; omega) (fun j hj => (hown2.lt j hj).1)
theorem cell_one_new (w : World) (x : Int) : ∀ j u, [Value.int .u32 x][j]? = some u → (w.alloc (.cells #[.int .u32 x] 76)).cell? ((⟨w.heap.size, 0, none⟩ : Addr).add j) = some u := by
  intro j u hj
  match j, hj with
  | 0, hj => simp at hj; subst hj; simp [Addr.add]
theorem row_of_owns {w : World} {B k : Nat} {v : Value} {g : Nat → Int} (h : w.ownsRow B 76 1 v k (vals k g)) (h9 : All9 g) : Row w v k g := by
  rcases h.2 with ⟨rfl, h0⟩ | ⟨b, cap, cur, rfl, hb, hg, hc, hm, hs, ht⟩
  · exact .inl ⟨h0, none, 0, rfl, fun _ => rfl⟩
  · refine .inr ⟨b, 0, cap, rfl, hc, hm, ⟨fun i hi => ?_, fun i => (h9 i).1, fun i => by have := (h9 i).2; omega⟩⟩
    rw [Nat.zero_add, h.cellAt i (by omega), vals_get k g i hi]

set_option maxRecDepth 100000 in
set_option maxHeartbeats 800000 in
theorem of_ok (s : ByteArray) (w : World) (h1 : 1 ≤ s.size) (h2 : s.size ≤ 1048576) (hd : Digits s) :
    Calls Tryz.prog 20 #[.string s] w fun e w' => ∃ r, e = .returned (.tuple #[r, .int .i64 0]) ∧ Num w' r (dec (dig s) s.size) ∧ Below w.heap.size w w' := by
  obtain ⟨i0, hi, hz0, hz1, hz2⟩ := info_parts info46
  have ha := allDigits_ok s w h2 hd
  have hmk : (Instr.makeSlice 45 (.int .i64 0) (.int .i64 ((s.size : Int) / 9 + 1))).run Tryz.prog w = .ok (.slice (some ⟨w.heap.size, 0, none⟩) 0 (s.size / 9 + 1)) (w.alloc (.cells (madeCells #[.int .u32 0] (s.size / 9 + 1)) 76)) := by
    have := run_make (P := Tryz.prog) w 45 76 i0 (.int .u32 0) Tryz.underlying45 hi hz0 .i64 .i64 0 ((s.size : Int) / 9 + 1) (by omega) (by omega) (by rw [hz2]; omega) (by omega)
    rw [hz1, show ((s.size : Int) / 9 + 1).toNat = s.size / 9 + 1 by omega] at this
    simpa [Value.cells] using this
  have hok : (w.alloc (.cells (madeCells #[.int .u32 0] (s.size / 9 + 1)) 76)).ownsRow w.heap.size 76 1 (.slice (some ⟨w.heap.size, 0, none⟩) 0 (s.size / 9 + 1)) 0 [] :=
    World.ownsRow_made w _ _ (Nat.le_refl _) (by unfold maxLen; omega) (by have := size_madeCells #[Value.int .u32 0] ((s.size / 9 + 1) * 1); simpa using this)
  have HS : Hid (OfRel s w (.slice (some ⟨w.heap.size, 0, none⟩) 0 (s.size / 9 + 1)) (.int .i64 s.size) (w.alloc (.cells (madeCells #[.int .u32 0] (s.size / 9 + 1)) 76))) :=
    ⟨0, s.size, s.size, fun _ => 0, rfl, Nat.le_refl _, .inl ⟨rfl, by omega⟩, by omega, fun _ => (by decide : (0 : Int) ≤ 0 ∧ (0 : Int) < 1000000000), hok, by rw [pw_zero, val_zero]; omega, one_below w _⟩
  have HD : Hid (Digits s) := hd
  have n0 : ((s.size : Int) == 0) = false := beq_eq_false_iff_ne.2 (by omega)
  clear hd hok
  go_enter Tryz.func20, Tryz.ntmps20
  go_wp2_with (go_at_call 43; refine ha.mono ?_; rintro e w' ⟨rfl, rfl⟩)
  clear hmk ha
  go_loopw [4, 5] (fun v t wr => OfRel s w v t wr) (fun _ t _ => (intOf t).toNat)
  case atStart => exact HS.out
  case round =>
    obtain ⟨k, e, E, g, rfl, he, hE, hke, h9, hown, hv, hb⟩ := hrel
    by_cases hlt : 0 < e
    · obtain rfl : E = e := by omega
      have hz := hb.size
      have hx := dig_extract s (e - 9) e he HD.out
      have hl := limbOf_any (s.extract (e - 9) e) wr (by rw [ByteArray.size_extract]; omega) hx.1
      rw [show (s.extract (e - 9) e).size = e - (e - 9) by rw [ByteArray.size_extract]; omega, dec_congr _ (fun i => dig s (e - 9 + i)) _ (fun i hi => hx.2 i hi)] at hl
      have hbd := dec_bd9 (fun i => dig s (e - 9 + i)) (e - (e - 9)) (by omega) (fun i hi => by have := HD.out (e - 9 + i) (by omega); unfold dig; omega)
      have HN := fun v' w3 o h1 h2 => OfRel_next s w u4 v' wr w3 o k e g HD.out he hlt hke h9 hown hv hb h1 h2
      clear hv hx
      generalize dec (fun i => dig s (e - 9 + i)) (e - (e - 9)) = D at *
      by_cases h9e : 9 < e
      · have i1 : (0 : Int) < (e : Int) - 9 := by omega
        have ez : ((e : Int) - 9).toNat = e - 9 := by omega
        go_wp2_with (first | (go_at_call 44; refine hl.mono ?_; rintro e w' ⟨rfl, rfl⟩) | (at_builtin; refine wpList_append_own _ rfl _ _ 45 rfl w.heap.size 76 i0 (.int .u32 0) 1 4 Tryz.underlying45 hi hz0 hz1 hz2 rfl (by decide) _ _ _ rfl (hown.alloc _) ⟨wr.heap.size, 0, none⟩ 1 1 [.int .u32 D] rfl rfl (cell_one_new _ _) (by intro u hu; simp at hu; subst hu; rfl) (by unfold maxLen; omega) (by omega) (by simp; omega) ?_))
        · intro v' w3 hown3 hgrow3 _
          have HR : Hid (OfRel s w v' (.int .i64 ((e : Int) - 9)) w3) := HN v' w3 _ hown3 hgrow3
          clear HN hown3 hgrow3 hown hl
          go_wp2
          go_roundw
          case rel => exact HR.out
          case measure => simp [intOf]; omega
      · have i1 : ¬ (0 : Int) < (e : Int) - 9 := by omega
        have ez : e - 9 = 0 := by omega
        rw [ez] at hl
        go_wp2_with (first | (go_at_call 44; refine hl.mono ?_; rintro e w' ⟨rfl, rfl⟩) | (at_builtin; refine wpList_append_own _ rfl _ _ 45 rfl w.heap.size 76 i0 (.int .u32 0) 1 4 Tryz.underlying45 hi hz0 hz1 hz2 rfl (by decide) _ _ _ rfl (hown.alloc _) ⟨wr.heap.size, 0, none⟩ 1 1 [.int .u32 D] rfl rfl (cell_one_new _ _) (by intro u hu; simp at hu; subst hu; rfl) (by unfold maxLen; omega) (by omega) (by simp; omega) ?_))
        · intro v' w3 hown3 hgrow3 _
          have HR : Hid (OfRel s w v' (.int .i64 ((e : Int) - 9)) w3) := HN v' w3 _ hown3 hgrow3
          clear HN hown3 hgrow3 hown hl
          go_wp2
          go_roundw
          case rel => exact HR.out
          case measure => simp [intOf]; omega
    · have e0 : e = 0 := by omega
      subst e0
      have hE2 : E ≤ 0 := by omega
      have ht := trimmed_any _ k g wr (row_of_owns hown h9)
      have HV : Hid (val g k = dec (dig s) s.size) := by show val g k = _; rw [hv]; simp [dec]
      have H9 : Hid (All9 g) := h9
      clear hown hv h9
      go_wp2_with fail
      refine ht.mono ?_
      rintro e w' ⟨r, rfl, hr, rfl⟩
      clear ht
      go_wp2
      go_ret2
      exact ⟨_, rfl, num_of_trim H9.out hr HV.out, hb⟩
end Go.Proofs.YtfhapeinfhjihaaGreatDoor
