/-
  All pointers of a value, how many values there are, and how deep. No condition.
  What ref7.Part, ref7.Text and ref7.plain answer. Conditions: at most 2^38 bytes.
-/
import Derived.Test.YtkbkedknoahhgaaDoorJoined35
import Derived.Test.YtkbkedknoahhgaaDoorJoined13
import Derived.Test.YtkbkedknoahhgaaDoorJoined32
import Derived.Test.YtkbkedknoahhgaaDoorJoined14
import Derived.Test.YtkbkedknoahhgaaDoorJoined17
import Derived.Laws.Concat
namespace Go.Proofs.YtkbkedknoahhgaaDoor
open Go.RowKit

mutual
/-- How many values there are. -/
def cntV : JV → Nat
  | .mk _ _ _ _ _ l _ => cntL l + 1
def cntL : List JV → Nat
  | [] => 0
  | v :: l => cntV v + cntL l
end
mutual
/-- How deep. -/
def dpN : JV → Nat
  | .mk _ _ _ _ _ l _ => dpL l + 1
def dpL : List JV → Nat
  | [] => 0
  | v :: l => max (dpN v) (dpL l)
end
theorem dpL_mem : ∀ (l : List JV) (v : JV), v ∈ l → dpN v ≤ dpL l
  | y :: l, v, h => by
    rw [dpL]
    rcases List.mem_cons.1 h with rfl | h
    · omega
    · have := dpL_mem l v h; omega
/-- The part that leads to an element. -/
def prt (k : Int) (ks : List ByteArray) (i : Nat) : List UInt8 := if k = 6 then (ks.getD i ⟨#[]⟩).data.toList else Lib.itoa (i : Int)
/-- A pointer with one part more. -/
def atP (a p : List UInt8) : List UInt8 := a ++ (47 :: encL ndT codeT p)
theorem atP_text (a p : List UInt8) : atP a p = a ++ textL [p] := by simp [atP, textL]
mutual
/-- All pointers, behind one. -/
def allJ : JV → List UInt8 → List (List UInt8)
  | .mk k _ _ _ _ l ks, a => a :: allL l k ks 0 a
def allL : List JV → Int → List ByteArray → Nat → List UInt8 → List (List UInt8)
  | [], _, _, _, _ => []
  | v :: l, k, ks, i, a => allJ v (atP a (prt k ks i)) ++ allL l k ks (i + 1) a
end
theorem allL_append (k : Int) (ks : List ByteArray) (a : List UInt8) : ∀ (l m : List JV) (i : Nat), allL (l ++ m) k ks i a = allL l k ks i a ++ allL m k ks (i + l.length) a
  | [], m, i => by simp [allL]
  | v :: l, m, i => by
    rw [List.cons_append, allL, allL, allL_append k ks a l m, List.append_assoc, List.length_cons]
    congr 3
    omega
theorem allL_take (l : List JV) (k : Int) (ks : List ByteArray) (a : List UInt8) (i : Nat) (h : i < l.length) : allL (l.take (i + 1)) k ks 0 a = allL (l.take i) k ks 0 a ++ allJ l[i] (atP a (prt k ks i)) := by
  rw [List.take_add_one, List.getElem?_eq_getElem h, allL_append]
  simp [allL, Nat.min_eq_left (Nat.le_of_lt h)]
theorem cntL_append : ∀ (l m : List JV), cntL (l ++ m) = cntL l + cntL m
  | [], m => by simp [cntL]
  | v :: l, m => by rw [List.cons_append, cntL, cntL, cntL_append l m]; omega
theorem cntL_take (l : List JV) (i : Nat) (h : i < l.length) : cntL (l.take (i + 1)) = cntL (l.take i) + cntV l[i] := by
  rw [List.take_add_one, List.getElem?_eq_getElem h, cntL_append]
  simp [cntL]
theorem cntL_take_le (l : List JV) (i : Nat) : cntL (l.take i) ≤ cntL l := by
  have := cntL_append (l.take i) (l.drop i)
  rw [List.take_append_drop] at this
  omega
theorem cntL_split (l : List JV) (i : Nat) (h : i < l.length) : cntL (l.take i) + cntV l[i] ≤ cntL l := by
  rw [← cntL_take l i h]; exact cntL_take_le l (i + 1)
theorem allJ_len : ∀ (v : JV) (a : List UInt8), (allJ v a).length = cntV v := by
  intro v
  induction v using JV.ind with
  | h k n g e t l ks ih =>
    intro a
    have : ∀ (l : List JV) (i : Nat), (∀ c ∈ l, ∀ a, (allJ c a).length = cntV c) → (allL l k ks i a).length = cntL l := by
      intro l
      induction l with
      | nil => intro i _; rfl
      | cons c l ihl => intro i h; rw [allL, List.length_append, h c (by simp), ihl (i + 1) (fun y hy => h y (by simp [hy])), cntL]
    rw [allJ, List.length_cons, this l 0 ih, cntV]
theorem allL_len (l : List JV) (k : Int) (ks : List ByteArray) (i : Nat) (a : List UInt8) : (allL l k ks i a).length = cntL l := by
  induction l generalizing i with
  | nil => rfl
  | cons c l ih => rw [allL, List.length_append, allJ_len, ih, cntL]
theorem elN_sh {k : Int} {n : Bool} {g : ByteArray} {e : Int} {t : ByteArray} {l : List JV} {ks : List ByteArray} (h : ShV (.mk k n g e t l ks)) : elN (.mk k n g e t l ks) = l.length := by
  cases h with
  | mk h1 h2 h3 h4 h5 =>
    rw [show elN (.mk k n g e t l ks) = (if k = 5 then l.length else if k = 6 then min ks.length l.length else 0) from rfl]
    by_cases c5 : k = 5
    · rw [if_pos c5]
    · by_cases c6 : k = 6
      · rw [if_neg c5, if_pos c6, h3 c6, Nat.min_self]
      · rw [if_neg c5, if_neg c6, h1 c5 c6]
theorem depthL_ge (c : Int → Bool) : ∀ (l : List JV) (a : Int), a ≤ depthL c l a ∧ ∀ v ∈ l, depthV c v ≤ depthL c l a
  | [], a => ⟨by simp [depthL], fun v hv => by simp at hv⟩
  | x :: l, a => by
    have ih := depthL_ge c l (max a (depthV c x))
    rw [depthL]
    refine ⟨by omega, fun v hv => ?_⟩
    rcases List.mem_cons.1 hv with rfl | hv
    · omega
    · exact ih.2 v hv
theorem depthL_le (c : Int → Bool) : ∀ (l : List JV) (a m : Int), a ≤ m → (∀ v ∈ l, depthV c v ≤ m) → depthL c l a ≤ m
  | [], a, m, h, _ => by simpa [depthL] using h
  | x :: l, a, m, h, hv => by
    rw [depthL]
    exact depthL_le c l _ m (by have := hv x (by simp); omega) (fun v h => hv v (by simp [h]))
theorem dpL_le : ∀ (l : List JV) (m : Nat), (∀ v ∈ l, dpN v ≤ m) → dpL l ≤ m
  | [], m, _ => by simp [dpL]
  | x :: l, m, h => by
    rw [dpL]
    have := h x (by simp)
    have := dpL_le l m (fun v hv => h v (by simp [hv]))
    omega
/-- The depth that is told is the depth. -/
theorem dp_told : ∀ (v : JV), ShV v → dpN v ≤ 4611686018427387904 → (dpN v : Int) - 1 ≤ depthV rholds v ∧ depthV rholds v ≤ (dpN v : Int) ∧ 0 ≤ depthV rholds v := by
  intro v
  induction v using JV.ind with
  | h k n g e t l ks ih =>
    intro hs hd
    cases hs with
    | mk h1 h2 h3 h4 h5 =>
    rw [dpN] at hd
    have hc : ∀ c ∈ l, (dpN c : Int) - 1 ≤ depthV rholds c ∧ depthV rholds c ≤ (dpN c : Int) ∧ 0 ≤ depthV rholds c := fun c hc => ih c hc (h4 c hc) (by have := dpL_mem l c hc; omega)
    have hge := depthL_ge rholds l 0
    have hle := depthL_le rholds l 0 (dpL l : Int) (by omega) (fun c h => by have := (hc c h).2.1; have := dpL_mem l c h; omega)
    rw [depthV, dpN]
    by_cases hk : rholds k = true
    · rw [if_pos hk]
      have hw : wrap64 (depthL rholds l 0 + 1) = depthL rholds l 0 + 1 := by unfold wrap64; omega
      rw [hw]
      refine ⟨?_, by omega, by omega⟩
      have : dpL l ≤ (depthL rholds l 0 + 1).toNat := dpL_le l _ (fun c h => by have := (hc c h).1; have := hge.2 c h; omega)
      omega
    · have hkn : k < 5 := by
        unfold rholds at hk
        simpa using hk
      have hl : l = [] := List.eq_nil_of_length_eq_zero (h1 (by omega) (by omega))
      rw [if_neg hk, hl]
      simp [dpL]
theorem dp_cnt : ∀ (v : JV), dpN v ≤ cntV v := by
  intro v
  induction v using JV.ind with
  | h k n g e t l ks ih =>
    rw [dpN, cntV]
    have : ∀ l : List JV, (∀ c ∈ l, dpN c ≤ cntV c) → dpL l ≤ cntL l := by
      intro l
      induction l with
      | nil => intro _; simp [dpL]
      | cons c l ihl => intro h; rw [dpL, cntL]; have := h c (by simp); have := ihl (fun y hy => h y (by simp [hy])); omega
    have := this l ih
    omega
/-- How many values, as Go counts. -/
theorem size_cnt : ∀ (v : JV), cntV v ≤ 4611686018427387904 → sizeV v = (cntV v : Int) := by
  intro v
  induction v using JV.ind with
  | h k n g e t l ks ih =>
    intro hc
    rw [cntV] at hc
    rw [sizeV, cntV]
    have : ∀ (l : List JV) (a : Nat), (∀ c ∈ l, cntV c ≤ 4611686018427387904 → sizeV c = (cntV c : Int)) → cntL l + a ≤ 4611686018427387904 → sizeL l (a : Int) = ((cntL l + a : Nat) : Int) := by
      intro l
      induction l with
      | nil => intro a _ _; simp [sizeL, cntL]
      | cons c l ihl =>
        intro a h hb
        rw [cntL] at hb
        rw [sizeL, h c (by simp) (by omega), cntL]
        have hw : wrap64 ((a : Int) + (cntV c : Int)) = ((a + cntV c : Nat) : Int) := by unfold wrap64; omega
        rw [hw, ihl (a + cntV c) (fun y hy => h y (by simp [hy])) (by omega)]
        congr 1
        omega
    have := this l 1 ih (by omega)
    exact this
end Go.Proofs.YtkbkedknoahhgaaDoor

namespace Go.Proofs.YtkbkedknoahhgaaDoor
open Go.RowKit
attribute [local go_sem] setCell_drewN alloc_drewN

theorem bs_append (a b : List UInt8) : bs a ++ bs b = bs (a ++ b) := by
  apply ByteArray.ext
  simp [bs]
theorem one_piece (s : ByteArray) (i : Nat) (h : i < s.size) : s.extract i (i + 1) = bs [s.data.toList[i]'(by rw [len_of]; exact h)] := by
  rw [piece_bs]
  congr 1
  have hl := len_of s
  rw [List.drop_eq_getElem_cons (by omega)]
  simp
theorem enc_same {p : Int → Bool} {code : Int → List UInt8} {l : List UInt8} {k : Nat} (hk : k < l.length) (h : p (bx l k) = false) : encL p code (l.take (k + 1)) = encL p code (l.take k) ++ [l[k]] := by
  rw [take_next l k hk, encL_append]
  rw [bx_get l k hk] at h
  simp [encL, h]
theorem r_string {a b : ByteArray} (h : a = b) : Ending.returned (.string a) = .returned (.string b) := by rw [h]

set_option maxRecDepth 100000 in
set_option maxHeartbeats 800000 in
theorem rpart_any (s : ByteArray) (w : World) (hs : s.size ≤ 274877906944) :
    Calls Tryd.prog 43 #[.string s] w fun r w' => r = .returned (.string (bs (47 :: encL ndT codeT s.data.toList))) ∧ w' = w := by
  have hmI : (s.size : Int) ≤ 274877906944 := by omega
  have hl := len_of s
  go_enter Tryd.func43, Tryd.ntmps43
  go_wp2_with fail
  go_loopw [3, 4] (fun v t wr => ∃ i : Nat, i ≤ s.size ∧ t = .int .i64 i ∧ v = .string (bs (47 :: encL ndT codeT (s.data.toList.take i))) ∧ wr = w) (fun _ t _ => s.size - (intOf t).toNat)
  case atStart => exact ⟨0, Nat.zero_le _, rfl, rfl, rfl⟩
  case round =>
    obtain ⟨i, hi, rfl, rfl, rfl⟩ := hrel
    have hz := enc_len (p := ndT) codeT_len (s.data.toList.take i)
    rw [List.length_take] at hz
    have hA : (bs (47 :: encL ndT codeT (s.data.toList.take i))).size ≤ 900000000000 := by rw [bs_size, List.length_cons]; omega
    by_cases hlt : i < s.size
    · have hI : (i : Int) < (s.size : Int) := by omega
      have hx := bx_at s i hlt
      have h1 := fun h => enc_one (p := ndT) (code := codeT) (l := s.data.toList) (k := i) (by omega) h
      have h2 := fun h => enc_same (p := ndT) (code := codeT) (l := s.data.toList) (k := i) (by omega) h
      have hP := one_piece s i hlt
      by_cases c1 : bx s.data.toList i = 126
      · have HT : Hid (bs (47 :: encL ndT codeT (s.data.toList.take i)) ++ ⟨#[126, 48]⟩ = bs (47 :: encL ndT codeT (s.data.toList.take (i + 1)))) := by
          show _ = _
          rw [h1 (by rw [c1]; rfl), c1]
          exact bs_append _ [126, 48]
        rw [c1] at hx
        clear h1 h2 hP c1
        generalize bs (47 :: encL ndT codeT (s.data.toList.take i)) = A at *
        go_wp2_with fail
        go_roundw
        case rel => exact ⟨i + 1, by omega, by go_num, by rw [HT.out], trivial⟩
        case measure => simp [intOf]; omega
      · by_cases c2 : bx s.data.toList i = 47
        · have HT : Hid (bs (47 :: encL ndT codeT (s.data.toList.take i)) ++ ⟨#[126, 49]⟩ = bs (47 :: encL ndT codeT (s.data.toList.take (i + 1)))) := by
            show _ = _
            rw [h1 (by rw [c2]; rfl), c2]
            exact bs_append _ [126, 49]
          rw [c2] at hx
          clear h1 h2 hP c1 c2
          generalize bs (47 :: encL ndT codeT (s.data.toList.take i)) = A at *
          go_wp2_with fail
          go_roundw
          case rel => exact ⟨i + 1, by omega, by go_num, by rw [HT.out], trivial⟩
          case measure => simp [intOf]; omega
        · have HT : Hid (bs (47 :: encL ndT codeT (s.data.toList.take i)) ++ s.extract i (i + 1) = bs (47 :: encL ndT codeT (s.data.toList.take (i + 1)))) := by
            show _ = _
            rw [h2 (by unfold ndT; rw [beq_eq_false_iff_ne.2 c1, beq_eq_false_iff_ne.2 c2]; rfl), hP]
            exact bs_append _ _
          have e1 : (bx s.data.toList i == 126) = false := beq_eq_false_iff_ne.2 c1
          have e2 : (bx s.data.toList i == 47) = false := beq_eq_false_iff_ne.2 c2
          have hPs : (s.extract i (i + 1)).size = 1 := by rw [hP, bs_size]; rfl
          clear h1 h2 hP
          generalize bs (47 :: encL ndT codeT (s.data.toList.take i)) = A at *
          generalize bx s.data.toList i = c at *
          go_wp2_with fail
          go_roundw
          case rel => exact ⟨i + 1, by omega, by go_num, by rw [HT.out], trivial⟩
          case measure => simp [intOf]; omega
    · have hI : ¬ (i : Int) < (s.size : Int) := by omega
      obtain rfl : i = s.size := by omega
      have HT : Hid (bs (47 :: encL ndT codeT (s.data.toList.take s.size)) = bs (47 :: encL ndT codeT s.data.toList)) := by show _ = _; rw [List.take_of_length_le (by omega)]
      go_wp2
      go_ret
      exact ⟨r_string HT.out, rfl⟩

end Go.Proofs.YtkbkedknoahhgaaDoor
