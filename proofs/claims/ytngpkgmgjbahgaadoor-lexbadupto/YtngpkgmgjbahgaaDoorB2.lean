/-
  What is bad becomes good by another end: plain mathematics of what lex.Next answers. No condition.
-/
import Derived.Test.YtngpkgmgjbahgaaDoorB1
namespace Go.Proofs.YtngpkgmgjbahgaaDoor
open Go.RowKit

/-- The ends that are tried. -/
def endsL : List (List UInt8) := [[], [48], [34], [117, 108, 108], [108, 108], [108], [114, 117, 101], [117, 101], [101], [97, 108, 115, 101], [108, 115, 101], [115, 101], [117, 48, 48, 48, 48, 34], [48, 48, 48, 48, 34], [48, 48, 48, 34], [48, 48, 34], [48, 34],
  [92, 117, 100, 99, 48, 48, 34], [117, 100, 99, 48, 48, 34], [100, 99, 48, 48, 34], [99, 48, 48, 34], [128, 34], [160, 128, 34], [128, 128, 34], [144, 128, 128, 34], [128, 128, 128, 34], [34, 34], [56, 48, 48, 34], [48, 48, 92, 117, 100, 99, 48, 48, 34], [48, 92, 117, 100, 99, 48, 48, 34]]

theorem take_len {l : List UInt8} {N : Nat} (h : N ≤ l.length) : (l.take N).length = N := by simp; omega
theorem bx_end {l e : List UInt8} {N : Nat} (h : N ≤ l.length) (q : Nat) : bx (l.take N ++ e) (N + q) = bx e q := by
  unfold bx
  rw [List.getElem?_append_right (by rw [take_len h]; omega), take_len h, show N + q - N = q by omega]
theorem end_len {l e : List UInt8} {N : Nat} (h : N ≤ l.length) : (l.take N ++ e).length = N + e.length := by rw [List.length_append, take_len h]
theorem has_end {l e : List UInt8} {N : Nat} (h : N ≤ l.length) {q : Nat} (hq : q < e.length) (p : Int → Bool) : hasAt (l.take N ++ e) (N + q) p = p (bx e q) := by
  rw [hasAt_in _ (by rw [end_len h]; omega), bx_end h]

theorem spelled_at (cs : List UInt8) : ∀ {l : List UInt8} {i : Nat}, i + cs.length ≤ l.length → (∀ q, q < cs.length → bx l (i + q) = bx cs q) → spelledL l i cs = .ok (i + cs.length) := by
  induction cs with
  | nil => intro l i _ _; rfl
  | cons c cs ih =>
    intro l i hl h
    rw [List.length_cons] at hl h
    have h0 := h 0 (by omega)
    have hc : hasAt l i (· == (c.toNat : Int)) = true := by
      rw [hasAt_in _ (by omega)]
      have : bx l i = (c.toNat : Int) := by rw [Nat.add_zero] at h0; rw [h0]; simp [bx]
      simp [this]
    simp only [spelledL]
    rw [if_pos hc, ih (by omega) (fun q hq => by
      have := h (q + 1) (by omega)
      rw [show i + 1 + q = i + (q + 1) by omega, this]
      simp [bx]), List.length_cons]
    congr 1
    omega
theorem spelled_fill {l : List UInt8} (cs : List UInt8) : ∀ {i n : Nat}, i ≤ l.length → spelledL l i cs = .error n → n - 1 ≤ l.length ∧ ∀ y, spelledL (l.take (n - 1) ++ (cs.drop (n - 1 - i) ++ y)) i cs = .ok (i + cs.length) := by
  induction cs with
  | nil => intro i n _ h; simp [spelledL] at h
  | cons c cs ih =>
    intro i n hi h
    have hg := spelled_gt (c :: cs) h
    simp only [spelledL] at h
    split at h
    · rename_i g
      have hlt := hasAt_lt g
      have hg2 := (spelled_gt cs h).1
      have r := ih (by omega) h
      refine ⟨r.1, fun y => ?_⟩
      have e : n - 1 - i = (n - 1 - (i + 1)) + 1 := by omega
      rw [e, List.drop_succ_cons]
      have ha := agree_take l (cs.drop (n - 1 - (i + 1)) ++ y) (n - 1) r.1
      simp only [spelledL]
      rw [ha.has (by omega), if_pos g, r.2 y, List.length_cons]
      congr 1
      omega
    · have e := Except.error.inj h
      have e1 : n - 1 = i := by omega
      rw [e1]
      refine ⟨hi, fun y => ?_⟩
      rw [show i - i = 0 by omega, List.drop_zero]
      refine spelled_at (c :: cs) (by rw [end_len hi, List.length_append]; omega) (fun q hq => ?_)
      rw [bx_end hi]
      unfold bx
      rw [List.getElem?_append_left hq]

theorem digits_end {l : List UInt8} {N : Nat} (h : N ≤ l.length) : digitsL (l.take N ++ [48]) N = .ok (N + 1) := by
  have hh := has_end (e := [48]) h (q := 0) (by simp) digitB
  rw [Nat.add_zero] at hh
  unfold digitsL
  rw [hh, if_pos (by decide), pass_stop (hasAt_out _ (by rw [end_len h]; simp))]
theorem number_fill {l : List UInt8} {p n : Nat} (hp : p < l.length) (hc : bx l p = 45 ∨ digitB (bx l p) = true) (h : numberL l p = .error n) : n - 1 ≤ l.length ∧ p < n - 1 ∧ numberL (l.take (n - 1) ++ [48]) p = .ok n := by
  have last : ∀ {N : Nat}, N ≤ l.length → expPart (l.take N ++ [48]) (.ok (N + 1)) = .ok (N + 1) := fun {N} hN => by
    simp only [expPart]
    rw [hasAt_out _ (by rw [end_len hN]; simp), if_neg (by simp)]
  have last2 : ∀ {N : Nat}, N ≤ l.length → fracPart (l.take N ++ [48]) (.ok (N + 1)) = .ok (N + 1) := fun {N} hN => by
    simp only [fracPart]
    rw [hasAt_out _ (by rw [end_len hN]; simp), if_neg (by simp)]
  unfold numberL at h ⊢
  cases hw : wholeL l p with
  | error a =>
    rw [hw] at h
    have e : a = n := Except.error.inj h
    subst e
    unfold wholeL at hw
    have ha := aft_le l p (· == 45)
    split at hw
    · cases hw
    · rename_i g
      have e2 := digitsL_error hw
      have hap : aft l p (· == 45) = p + 1 := by
        unfold aft
        rcases hc with c | c
        · rw [if_pos (by rw [hasAt_in _ hp, c]; rfl)]
        · exfalso
          have c45 : ¬ bx l p = 45 := by simp [digitB] at c; omega
          have : aft l p (· == 45) = p := by unfold aft; rw [if_neg (by rw [hasAt_in _ hp]; simpa using c45)]
          rw [this] at hw
          unfold digitsL at hw
          rw [hasAt_in _ hp, if_pos c] at hw
          cases hw
      rw [hap] at e2 ha
      have hN : p + 1 ≤ l.length := by omega
      rw [show a - 1 = p + 1 by omega]
      have hA := agree_take l [48] (p + 1) hN
      refine ⟨hN, by omega, ?_⟩
      have hw' : wholeL (l.take (p + 1) ++ [48]) p = .ok (p + 1 + 1) := by
        unfold wholeL
        rw [aft_agree hA (by omega), hap]
        have hh := has_end (e := [48]) hN (q := 0) (by simp) (· == 48)
        rw [Nat.add_zero] at hh
        rw [hh, if_pos (by decide)]
      rw [hw', last2 hN, last hN, show p + 1 + 1 = a by omega]
  | ok a =>
    rw [hw] at h
    have hwl := wholeL_le hw
    cases hf : fracPart l (.ok a) with
    | error b =>
      rw [hf] at h
      have e : b = n := Except.error.inj h
      subst e
      simp only [fracPart] at hf
      split at hf
      · rename_i g
        have e2 := digitsL_error hf
        have g1 := hasAt_lt g
        have hN : a + 1 ≤ l.length := by omega
        rw [show b - 1 = a + 1 by omega]
        have hA := agree_take l [48] (a + 1) hN
        refine ⟨hN, by omega, ?_⟩
        rw [whole_ok hA hw (by omega)]
        have hf' : fracPart (l.take (a + 1) ++ [48]) (.ok a) = .ok (a + 1 + 1) := by
          simp only [fracPart]
          rw [hA.has (by omega), if_pos g, digits_end hN]
        rw [hf', last hN, show a + 1 + 1 = b by omega]
      · cases hf
    | ok b =>
      rw [hf] at h
      have hfl := fracPart_le hwl.2 hf
      simp only [expPart] at h
      split at h
      · rename_i g
        have g1 := hasAt_lt g
        have ha := aft_le l (b + 1) (fun c => c == 43 || c == 45)
        unfold exponentL at h
        have e2 := digitsL_error h
        have hN : aft l (b + 1) (fun c => c == 43 || c == 45) ≤ l.length := by omega
        obtain ⟨N, hNe⟩ : ∃ N, aft l (b + 1) (fun c => c == 43 || c == 45) = N := ⟨_, rfl⟩
        rw [hNe] at ha e2 hN
        rw [show n - 1 = N by omega]
        have hA := agree_take l [48] N hN
        refine ⟨hN, by omega, ?_⟩
        rw [whole_ok hA hw (by omega), frac_ok hA hwl.2 hf (by omega)]
        simp only [expPart]
        rw [hA.has (by omega), if_pos g]
        unfold exponentL
        have hs : aft (l.take N ++ [48]) (b + 1) (fun c => c == 43 || c == 45) = N := by
          by_cases hb : b + 1 < N
          · rw [aft_agree hA hb, hNe]
          · have hb2 : b + 1 = N := by omega
            unfold aft
            have hh := has_end (e := [48]) hN (q := 0) (by simp) (fun c => c == 43 || c == 45)
            rw [Nat.add_zero] at hh
            rw [hb2, hh, if_neg (by decide)]
        rw [hs, digits_end hN, show N + 1 = n by omega]
      · cases h

/-- Digits of 16 that are put behind a number. -/
def foldV (v : Nat) (ds : List UInt8) : Nat := ds.foldl (fun v c => valU v (c.toNat : Int)) v
theorem valU_bd (v : Nat) (c : Int) : v * 16 ≤ valU v c ∧ valU v c < (v + 1) * 16 := by
  have := hexV_bd c
  unfold valU
  omega
theorem foldV_bd (ds : List UInt8) : ∀ v, v * 16 ^ ds.length ≤ foldV v ds ∧ foldV v ds < (v + 1) * 16 ^ ds.length := by
  induction ds with
  | nil => intro v; simp [foldV]
  | cons c ds ih =>
    intro v
    have a := ih (valU v (c.toNat : Int))
    have b := valU_bd v (c.toNat : Int)
    have e : foldV v (c :: ds) = foldV (valU v (c.toNat : Int)) ds := rfl
    rw [e, List.length_cons, Nat.pow_succ]
    have hp : 0 < 16 ^ ds.length := Nat.pow_pos (by omega)
    constructor
    · refine Nat.le_trans ?_ a.1
      rw [Nat.mul_comm (16 ^ ds.length) 16, ← Nat.mul_assoc]
      exact Nat.mul_le_mul_right _ b.1
    · refine Nat.lt_of_lt_of_le a.2 ?_
      rw [Nat.mul_comm (16 ^ ds.length) 16, ← Nat.mul_assoc]
      exact Nat.mul_le_mul_right _ (by omega)
/-- What is asked of the number in the end. -/
def wantN (low : Bool) (F : Nat) : Prop := if low = true then 56320 ≤ F ∧ F ≤ 57343 else ¬ (56320 ≤ F ∧ F ≤ 57343)
theorem want_in {low : Bool} {F : Nat} {a b : Int} (h : wantN low F) (h1 : a ≤ (F : Int)) (h2 : (F : Int) ≤ b) : wantB low a b = true := by
  unfold wantN at h
  unfold wantB
  cases low
  · simp only [Bool.false_eq_true, if_false] at h ⊢
    simp [notLowB]
    omega
  · simp only [if_true] at h ⊢
    simp [lowB]
    omega
theorem pow2 (k : Nat) : (2 : Int) ^ (4 * k) = ((16 ^ k : Nat) : Int) := by
  rw [Int.pow_mul]
  simp
theorem unit_fill {l : List UInt8} {low : Bool} (ds : List UInt8) : ∀ {p val F : Nat}, p + ds.length ≤ l.length → (∀ q, q < ds.length → bx l (p + q) = bx ds q ∧ hexB (bx ds q) = true) → foldV val ds = F → wantN low F → unitF l low ds.length p val = .ok (F, p + ds.length) := by
  induction ds with
  | nil => intro p val F _ _ hF _; simp only [foldV, List.foldl_nil] at hF; subst hF; rfl
  | cons c ds ih =>
    intro p val F hl h hF hw
    rw [List.length_cons] at hl h ⊢
    have h0 := h 0 (by omega)
    rw [Nat.add_zero] at h0
    have hb0 : bx (c :: ds) 0 = (c.toNat : Int) := by simp [bx]
    rw [hb0] at h0
    have eF : foldV (valU val (c.toNat : Int)) ds = F := hF
    have bd := foldV_bd ds (valU val (c.toNat : Int))
    rw [eF] at bd
    have hst : hasAt l p (stepU low val (4 * ds.length)) = true := by
      rw [hasAt_in _ (by omega), h0.1]
      unfold stepU
      rw [h0.2, Bool.true_and, pow2]
      have hv := valU_int val (c.toNat : Int)
      rw [← hv]
      refine want_in hw ?_ ?_
      · have := bd.1; rw [← Int.natCast_mul]; omega
      · have h2 := bd.2
        rw [Nat.add_mul, Nat.one_mul] at h2
        rw [← Int.natCast_mul]
        omega
    rw [unitF_step hst, h0.1, ih (by omega) (fun q hq => by
      have := h (q + 1) (by omega)
      rw [show p + 1 + q = p + (q + 1) by omega]
      have e : bx (c :: ds) (q + 1) = bx ds q := by simp [bx]
      rw [e] at this
      exact this) eF hw]
    rw [show p + 1 + ds.length = p + (ds.length + 1) by omega]
end Go.Proofs.YtngpkgmgjbahgaaDoor
