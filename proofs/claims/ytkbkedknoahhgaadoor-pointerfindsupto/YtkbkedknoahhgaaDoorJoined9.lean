/-
  What pointer.encoded answers at its two codes: each byte that stands the test is replaced by its code. Conditions: at most 2^40 bytes.
-/
import Derived.Test.YtkbkedknoahhgaaDoorJoined8
namespace Go.Proofs.YtkbkedknoahhgaaDoor
open Go.RowKit
attribute [local go_sem] setCell_drewN alloc_drewN

/-- Each byte that stands the test is replaced by its code. -/
def encL (p : Int → Bool) (code : Int → List UInt8) (l : List UInt8) : List UInt8 := l.flatMap fun c => if p (c.toNat : Int) = true then code (c.toNat : Int) else [c]
theorem take_next (l : List UInt8) (k : Nat) (h : k < l.length) : l.take (k + 1) = l.take k ++ [l[k]] := by rw [List.take_add_one, List.getElem?_eq_getElem h]; rfl
theorem encL_append (p : Int → Bool) (code : Int → List UInt8) (a b : List UInt8) : encL p code (a ++ b) = encL p code a ++ encL p code b := by simp [encL]
theorem enc_run {p : Int → Bool} {code : Int → List UInt8} {l : List UInt8} {i : Nat} : ∀ {k : Nat}, i ≤ k → k ≤ l.length → (∀ j, i ≤ j → j < k → p (bx l j) = false) → encL p code (l.take k) = encL p code (l.take i) ++ (l.drop i).take (k - i) := by
  intro k
  induction k with
  | zero => intro h1 _ _; have : i = 0 := by omega
            subst this; simp
  | succ k ih =>
    intro h1 h2 h3
    by_cases e : i = k + 1
    · subst e; simp
    · rw [take_next l k (by omega), encL_append, ih (by omega) (by omega) (fun j a b => h3 j a (by omega)), List.append_assoc]
      congr 1
      have hb := h3 k (by omega) (by omega)
      rw [bx_get l k (by omega)] at hb
      have e2 : k + 1 - i = (k - i) + 1 := by omega
      rw [e2, take_next (l.drop i) (k - i) (by rw [List.length_drop]; omega)]
      congr 1
      simp only [encL, List.flatMap_cons, List.flatMap_nil, List.append_nil, hb, List.getElem_drop]
      have e3 : i + (k - i) = k := by omega
      simp [e3]
theorem enc_one {p : Int → Bool} {code : Int → List UInt8} {l : List UInt8} {k : Nat} (hk : k < l.length) (h : p (bx l k) = true) : encL p code (l.take (k + 1)) = encL p code (l.take k) ++ code (bx l k) := by
  rw [take_next l k hk, encL_append]
  rw [bx_get l k hk] at h ⊢
  simp [encL, h]
theorem enc_len {p : Int → Bool} {code : Int → List UInt8} (hc : ∀ x, (code x).length ≤ 3) (l : List UInt8) : (encL p code l).length ≤ 3 * l.length := by
  induction l with
  | nil => simp [encL]
  | cons c l ih =>
    have e : encL p code (c :: l) = (if p (c.toNat : Int) = true then code (c.toNat : Int) else [c]) ++ encL p code l := by simp [encL]
    rw [e, List.length_append, List.length_cons]
    have := hc (c.toNat : Int)
    split <;> (try simp only [List.length_cons, List.length_nil]) <;> omega
theorem codeT_len (x : Int) : (codeT x).length ≤ 3 := by unfold codeT; split <;> decide
theorem codeP_len (x : Int) : (codeP x).length ≤ 3 := Nat.le_refl _

set_option maxRecDepth 100000 in
set_option maxHeartbeats 800000 in
theorem encoded_tilde (s : ByteArray) (w : World) (hs : s.size ≤ 1099511627776) :
    Calls Tryd.prog 58 #[.string s, .func (.func 59) #[] #[], .func (.func 60) #[] #[]] w fun r w' => r = .returned (.string (bs (encL ndT codeT s.data.toList))) ∧ Below w.heap.size w w' := by
  have hmI : (s.size : Int) ≤ 1099511627776 := by omega
  have hl := len_of s
  go_enter Tryd.func58, Tryd.ntmps58
  go_wp2_with fail
  go_loopw [8] (fun t wr => ∃ i : Nat, i ≤ s.size ∧ t = .int .i64 i ∧ BB w.heap.size (encL ndT codeT (s.data.toList.take i)) wr ∧ Below w.heap.size w wr) (fun t _ => s.size + 1 - (intOf t).toNat)
  case atStart => exact ⟨0, Nat.zero_le _, rfl, bb_fresh w, bl_a (Below.refl _ _) _⟩
  case round =>
    obtain ⟨i, hi, rfl, hB, hbel⟩ := hrel
    have h1 := sought_tilde s i wr hi (by omega)
    have k1 := pass_ge s.data.toList (fun c => !ndT c) i
    have k2 := pass_le (p := fun c => !ndT c) (show i ≤ s.data.toList.length by omega)
    have k3 := pass_in (l := s.data.toList) (p := fun c => !ndT c) _ i (Nat.le_refl _)
    have k4 := pass_end (l := s.data.toList) (p := fun c => !ndT c) _ i (Nat.le_refl _)
    generalize pass s.data.toList (fun c => !ndT c) i = k at *
    rw [hl] at k2 k4
    have er := enc_run (code := codeT) (p := ndT) (l := s.data.toList) k1 (by omega) (fun j a b => by simpa using k3 j a b)
    have hz := enc_len (p := ndT) codeT_len (s.data.toList.take i)
    rw [List.length_take] at hz
    have hz2 := enc_len (p := ndT) codeT_len (s.data.toList.take k)
    rw [List.length_take] at hz2
    have hw := wstr w.heap.size _ (s.extract i k) wr hB (by rw [← len_of, piece, List.length_take, List.length_drop]; omega)
    rw [piece, ← er] at hw
    have kI : (i : Int) ≤ (k : Int) := by omega
    have kS : (k : Int) ≤ (s.size : Int) := by omega
    clear k3 er
    by_cases e : k = s.size
    · subst e
      have HT : Hid (s.data.toList.take s.size = s.data.toList) := by show _ = _; rw [← hl, List.take_length]
      clear k4 hz hz2 hB kS k1 k2
      go_wp2_with (go_at_call 29; refine h1.mono ?_; rintro r w1 ⟨rfl, rfl⟩)
      refine hw.mono ?_
      rintro r w2 ⟨rfl, hB2, hb2⟩
      have h3 := bstr w.heap.size _ w2 hB2
      go_wp2_with (go_at_call 51; refine h3.mono ?_; rintro r w3 ⟨rfl, hb3⟩)
      go_ret
      exact ⟨r_str (by rw [HT.out]), (hbel.trans hb2).trans hb3⟩
    · have eI : ((k : Int) == (s.size : Int)) = false := beq_eq_false_iff_ne.2 (by omega)
      have kL : (k : Int) < (s.size : Int) := by omega
      have hx := bx_at s k (by omega)
      have hy : ndT (bx s.data.toList k) = true := by simpa using k4 (by omega)
      have hone := enc_one (code := codeT) (show k < s.data.toList.length by omega) hy
      have hc := fun w' => (tildeCode_any (bx s.data.toList k) w').mono (fun e w2 h => (⟨h.1, by rw [h.2]; exact Below.refl _ _⟩ : e = .returned (.string (bs (codeT (bx s.data.toList k)))) ∧ Below w'.heap.size w' w2))
      have hcl := codeT_len (bx s.data.toList k)
      have HO : Hid (encL ndT codeT (s.data.toList.take (k + 1)) = encL ndT codeT (s.data.toList.take k) ++ codeT (bx s.data.toList k)) := hone
      clear k4 hB hy hone
      generalize bx s.data.toList k = x at *
      go_wp2_with (go_at_call 29; refine h1.mono ?_; rintro r w1 ⟨rfl, rfl⟩)
      refine hw.mono ?_
      rintro r w2 ⟨rfl, hB2, hb2⟩
      go_wp2_with (go_at_call 60; refine (hc _).mono ?_; rintro r w3 ⟨rfl, hb3⟩)
      refine (wstr w.heap.size _ (bs (codeT x)) w3 (hB2.below hb3) (by rw [bs_size]; omega)).mono ?_
      rintro r w4 ⟨rfl, hB4, hb4⟩
      rw [bs_list, ← HO.out] at hB4
      have hbel4 : Below w.heap.size w w4 := ((hbel.trans hb2).trans (hb3.mono hB2.2)).trans hb4
      clear hw hc h1
      go_wp2
      go_roundw
      case rel => exact ⟨k + 1, by omega, by go_num, hB4, hbel4⟩
      case measure => simp [intOf]; omega

end Go.Proofs.YtkbkedknoahhgaaDoor
