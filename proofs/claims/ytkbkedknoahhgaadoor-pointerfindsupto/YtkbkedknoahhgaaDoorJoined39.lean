/-
  All pointers of a value that may be are found, and unlike. No condition.
-/
import Derived.Test.YtkbkedknoahhgaaDoorJoined36
import Derived.Test.YtkbkedknoahhgaaDoorJoined32
import Derived.Lib.ItoaMem
namespace Go.Proofs.YtkbkedknoahhgaaDoor
open Go.RowKit

theorem dec_lt {u : Nat} (h : u < 10) : Lib.decDigits u = [UInt8.ofNat (48 + u)] := by
  rw [Lib.decDigits]; simp [h]
theorem dec_ge {u : Nat} (h : ¬ u < 10) : Lib.decDigits u = Lib.decDigits (u / 10) ++ [UInt8.ofNat (48 + u % 10)] := by
  rw [Lib.decDigits]; simp [h]
theorem dig_nat {d : Nat} (h : d < 10) : ((UInt8.ofNat (48 + d)).toNat : Int) = 48 + (d : Int) := by
  have : (UInt8.ofNat (48 + d)).toNat = 48 + d := by
    rw [UInt8.toNat_ofNat']
    omega
  omega
theorem nbF_append (m : Int) : ∀ (a b : List UInt8) (n : Int), nbF m (a ++ b) n = (nbF m a n).bind fun x => nbF m b x
  | [], b, n => by simp [nbF]
  | c :: a, b, n => by
    rw [List.cons_append, nbF, nbF]
    split
    · split
      · rfl
      · exact nbF_append m a b _
    · rfl
theorem nbF_dec (m : Int) : ∀ (u : Nat), (u : Int) < m → nbF m (Lib.decDigits u) 0 = some (u : Int) := by
  intro u
  induction u using Nat.strongRecOn with
  | _ u ih =>
    intro hu
    by_cases h : u < 10
    · rw [dec_lt h, nbF, dig_nat h, if_pos ((wi_iff _ _ _).2 (by omega)), if_neg (by omega), nbF]
      congr 1
      omega
    · rw [dec_ge h, nbF_append, ih (u / 10) (by omega) (by omega)]
      show nbF m [UInt8.ofNat (48 + u % 10)] ((u / 10 : Nat) : Int) = _
      rw [nbF, dig_nat (by omega), if_pos ((wi_iff _ _ _).2 (by omega)), if_neg (by omega), nbF]
      congr 1
      omega
theorem dec_ne (u : Nat) : Lib.decDigits u ≠ [] := by
  by_cases h : u < 10
  · rw [dec_lt h]; simp
  · rw [dec_ge h]; simp
theorem dec_head : ∀ (u : Nat), 0 < u → (Lib.decDigits u).head? ≠ some 48 := by
  intro u
  induction u using Nat.strongRecOn with
  | _ u ih =>
    intro hu
    by_cases h : u < 10
    · rw [dec_lt h]
      intro e
      have e : UInt8.ofNat (48 + u) = 48 := by simpa using e
      have := dig_nat h
      rw [e] at this
      have : ((48 : UInt8).toNat : Int) = 48 := rfl
      omega
    · rw [dec_ge h]
      have := ih (u / 10) (by omega) (by omega)
      cases hd : Lib.decDigits (u / 10) with
      | nil => exact absurd hd (dec_ne _)
      | cons c t => rw [hd] at this; simpa using this
theorem nbL_itoa (u : Nat) (m : Nat) (h : u < m) : nbL (Lib.itoa (u : Int)) (m : Int) = some (u : Int) := by
  rw [Lib.itoa_nonneg]
  unfold nbL
  rw [if_neg, nbF_dec _ _ (by omega)]
  rintro (e | ⟨e1, e2⟩)
  · exact dec_ne u e
  · by_cases h0 : u = 0
    · subst h0
      exact e2 (by rw [dec_lt (by omega)]; rfl)
    · exact dec_head u (by omega) e1
theorem itoa_inj {a b : Nat} (h : Lib.itoa (a : Int) = Lib.itoa (b : Int)) : a = b := by
  have h1 := nbL_itoa a (a + b + 1) (by omega)
  have h2 := nbL_itoa b (a + b + 1) (by omega)
  rw [h, h2] at h1
  injection h1 with h1
  omega
/-- The first place of a key. -/
theorem kix_at : ∀ (ys : List ByteArray) (o i : Nat) (hi : i < ys.length), (∀ a b (ha : a < ys.length) (hb : b < ys.length), a < b → ys[a] ≠ ys[b]) → kix ys[i] ys o = some (o + i)
  | y :: ys, o, 0, _, _ => by rw [kix]; simp
  | y :: ys, o, i + 1, hi, h => by
    have hne : (y :: ys)[i + 1] ≠ y := fun e => h 0 (i + 1) (by simp) hi (by omega) (by rw [e]; rfl)
    rw [kix, if_neg hne]
    have := kix_at ys (o + 1) i (by simpa using hi) (fun a b ha hb hab => h (a + 1) (b + 1) (by simpa using ha) (by simpa using hb) (by omega))
    rw [List.getElem_cons_succ, this]
    congr 1
    omega
theorem prt_key {ks : List ByteArray} {i : Nat} (h : i < ks.length) : bs (prt 6 ks i) = ks[i] := by
  unfold prt
  rw [if_pos rfl, List.getD_eq_getElem?_getD, List.getElem?_eq_getElem h]
  rfl
/-- A part leads to its element. -/
theorem plc_prt {k : Int} {n : Bool} {g : ByteArray} {e : Int} {t : ByteArray} {l : List JV} {ks : List ByteArray} (hs : ShV (.mk k n g e t l ks)) {i : Nat} (hi : i < l.length) : plc (.mk k n g e t l ks) (prt k ks i) = some (i : Int) := by
  have hel := elN_sh hs
  cases hs with
  | mk h1 h2 h3 h4 h5 =>
    rw [plc]
    by_cases c5 : k = 5
    · subst c5
      rw [if_pos rfl]
      unfold prt
      rw [if_neg (by decide)]
      exact nbL_itoa i l.length hi
    · by_cases c6 : k = 6
      · subst c6
        have hk : i < ks.length := by rw [h3 rfl]; exact hi
        rw [if_neg (by decide), if_pos rfl, hel, prt_key hk, ← h3 rfl, List.take_length, kix_at ks 0 i hk h5]
        simp
      · have := h1 c5 c6; omega
mutual
/-- All rows of parts that lead to a value. -/
def apJ : JV → List (List (List UInt8))
  | .mk k _ _ _ _ l ks => [] :: apL l k ks 0
def apL : List JV → Int → List ByteArray → Nat → List (List (List UInt8))
  | [], _, _, _ => []
  | v :: l, k, ks, i => (apJ v).map (fun q => prt k ks i :: q) ++ apL l k ks (i + 1)
end
theorem textL_snoc (ps : List (List UInt8)) (p : List UInt8) : atP (textL ps) p = textL (ps ++ [p]) := by simp [atP, textL]
theorem all_ap : ∀ (v : JV) (ps : List (List UInt8)), allJ v (textL ps) = (apJ v).map fun q => textL (ps ++ q) := by
  intro v
  induction v using JV.ind with
  | h k n g e t l ks ih =>
    intro ps
    have key : ∀ (l : List JV) (i : Nat), (∀ c ∈ l, ∀ ps, allJ c (textL ps) = (apJ c).map fun q => textL (ps ++ q)) → allL l k ks i (textL ps) = (apL l k ks i).map fun q => textL (ps ++ q) := by
      intro l
      induction l with
      | nil => intro i _; rfl
      | cons c l ihl =>
        intro i h
        rw [allL, apL, textL_snoc, h c (by simp), ihl (i + 1) (fun y hy => h y (by simp [hy])), List.map_append, List.map_map]
        congr 1
        apply List.map_congr_left
        intro q _
        simp
    rw [allJ, apJ, List.map_cons, key l 0 ih, List.append_nil]
theorem apL_mem (k : Int) (ks : List ByteArray) : ∀ (l : List JV) (o : Nat) (q : List (List UInt8)), q ∈ apL l k ks o ↔ ∃ i, ∃ h : i < l.length, ∃ q', q' ∈ apJ l[i] ∧ q = prt k ks (o + i) :: q'
  | [], o, q => by simp [apL]
  | v :: l, o, q => by
    rw [apL, List.mem_append, List.mem_map, apL_mem k ks l (o + 1) q]
    constructor
    · rintro (⟨q', h1, rfl⟩ | ⟨i, h, q', h1, rfl⟩)
      · exact ⟨0, by simp, q', h1, rfl⟩
      · exact ⟨i + 1, by simpa using h, q', h1, by rw [show o + (i + 1) = o + 1 + i by omega]⟩
    · rintro ⟨i, h, q', h1, rfl⟩
      cases i with
      | zero => exact Or.inl ⟨q', h1, rfl⟩
      | succ i => exact Or.inr ⟨i, by simpa using h, q', h1, by rw [show o + (i + 1) = o + 1 + i by omega]⟩
/-- Each row of parts finds something. -/
theorem ap_found : ∀ (v : JV), ShV v → ∀ q ∈ apJ v, ∃ u, findJ v q = some u := by
  intro v
  induction v using JV.ind with
  | h k n g e t l ks ih =>
    intro hs q hq
    rw [apJ] at hq
    rcases List.mem_cons.1 hq with rfl | hq
    · exact ⟨_, by rw [findJ]⟩
    · obtain ⟨i, hi, q', hq', rfl⟩ := (apL_mem k ks l 0 q).1 hq
      rw [Nat.zero_add, findJ, plc_prt hs hi]
      have hc : ShV l[i] := by cases hs with | mk h1 h2 h3 h4 h5 => exact h4 _ (List.getElem_mem hi)
      obtain ⟨u, hu⟩ := ih l[i] (List.getElem_mem hi) hc q' hq'
      refine ⟨u, ?_⟩
      show findJ ((JV.list (.mk k n g e t l ks)).getD ((i : Int)).toNat _) q' = some u
      rw [Int.toNat_natCast]
      show findJ (l.getD i _) q' = some u
      rw [List.getD_eq_getElem?_getD, List.getElem?_eq_getElem hi]
      exact hu
/-- No two rows of parts are alike. -/
theorem ap_nodup : ∀ (v : JV), ShV v → (apJ v).Nodup := by
  intro v
  induction v using JV.ind with
  | h k n g e t l ks ih =>
    intro hs
    have hs0 := hs
    cases hs with
    | mk h1 h2 h3 h4 h5 =>
    have hinj : ∀ i j, i < l.length → j < l.length → prt k ks i = prt k ks j → i = j := by
      intro i j hi hj e
      have a := plc_prt hs0 hi
      have b := plc_prt hs0 hj
      rw [e, b] at a
      injection a with a
      omega
    have key : ∀ (m : List JV) (o : Nat), (∀ c ∈ m, (apJ c).Nodup) → o + m.length ≤ l.length → (apL m k ks o).Nodup := by
      intro m
      induction m with
      | nil => intro o _ _; simp [apL]
      | cons c m ihm =>
        intro o hc ho
        rw [List.length_cons] at ho
        rw [apL, List.nodup_append]
        refine ⟨?_, ihm (o + 1) (fun y hy => hc y (by simp [hy])) (by omega), ?_⟩
        · exact (hc c (by simp)).map _ (fun a b hne he => hne (by injection he))
        · intro x hx y hy e
          obtain ⟨q1, _, rfl⟩ := List.mem_map.1 hx
          obtain ⟨i, hi, q', _, rfl⟩ := (apL_mem k ks m (o + 1) y).1 hy
          injection e with e _
          have := hinj o (o + 1 + i) (by omega) (by omega) e
          omega
    rw [apJ, List.nodup_cons]
    refine ⟨fun h => ?_, key l 0 (fun c hc => ih c hc (h4 c hc)) (by omega)⟩
    obtain ⟨i, _, q', _, e⟩ := (apL_mem k ks l 0 []).1 h
    cases e
theorem textL_inj {a b : List (List UInt8)} (h : textL a = textL b) : a = b := by
  have h1 := parse_text a
  rw [h, parse_text] at h1
  injection h1 with h1
  exact h1.symm
/-- All pointers of a value are found, are unlike, and the first one is empty. -/
theorem all_found (v : JV) (hs : ShV v) : (∀ p ∈ allJ v [], ∃ u, findR v p = (u, 0)) ∧ (allJ v []).Nodup ∧ findR v [] = (v, 0) := by
  have e : allJ v [] = (apJ v).map textL := by
    have := all_ap v []
    simp only [List.nil_append] at this
    exact this
  refine ⟨fun p hp => ?_, ?_, ?_⟩
  · rw [e] at hp
    obtain ⟨q, hq, rfl⟩ := List.mem_map.1 hp
    obtain ⟨u, hu⟩ := ap_found v hs q hq
    refine ⟨u, ?_⟩
    rw [findR_text, hu]
  · rw [e]
    exact (ap_nodup v hs).map _ (fun a b hne h => hne (textL_inj h))
  · have := findR_text v []
    rw [show textL ([] : List (List UInt8)) = [] by rfl, findJ] at this
    exact this
end Go.Proofs.YtkbkedknoahhgaaDoor
