/-
  Patterns in parentheses, one behind the other, or one of both: what they are read as. No condition.
-/
import Derived.Test.YtannjmgnbfbpjaaDoorXG1
import Derived.Test.YtannjmgnbfbpjaaDoorXG2
namespace Go.Proofs.YtannjmgnbfbpjaaDoor

theorem patL_eq (d : Nat) : ∃ pat, patL d = patP pat := by cases d <;> exact ⟨_, rfl⟩
theorem row_step {term : List Int → Option (RX × List Int)} {n : Nat} {acc : List RX} {c : Int} {r l' : List Int} {x : RX} (hn : 1 ≤ n) (hc : ¬ (c = 124 ∨ c = 41)) (h : term (c :: r) = some (x, l')) : rowG term n acc (c :: r) = rowG term (n - 1) (acc ++ [x]) l' := by
  obtain ⟨n, rfl⟩ : ∃ k, n = k + 1 := ⟨n - 1, by omega⟩
  simp only [rowG]
  rw [if_neg hc, h]
  rfl
theorem row_none {term : List Int → Option (RX × List Int)} {n : Nat} {acc : List RX} {c : Int} {r : List Int} (hn : 1 ≤ n) (hc : ¬ (c = 124 ∨ c = 41)) (h : term (c :: r) = none) : rowG term n acc (c :: r) = none := by
  obtain ⟨n, rfl⟩ : ∃ k, n = k + 1 := ⟨n - 1, by omega⟩
  simp only [rowG]
  rw [if_neg hc, h]
theorem row_end (term : List Int → Option (RX × List Int)) (n : Nat) (acc : List RX) : rowG term n acc [] = some (acc, []) := by cases n <;> rfl
theorem row_stop {term : List Int → Option (RX × List Int)} {n : Nat} {acc : List RX} {c : Int} {r : List Int} (hc : c = 124 ∨ c = 41) : rowG term n acc (c :: r) = some (acc, c :: r) := by
  cases n with
  | zero => rfl
  | succ n => simp only [rowG]; rw [if_pos hc]
theorem alt_end {row : List Int → Option (RX × List Int)} {n : Nat} {acc : List RX} {l : List Int} (h : startsW [124] l = false) : altG row n acc l = some (acc, l) := by
  cases n with
  | zero => rfl
  | succ n => simp only [altG]; rw [if_neg (by rw [h]; decide)]
theorem alt_step {row : List Int → Option (RX × List Int)} {n : Nat} {acc : List RX} {l l' : List Int} {x : RX} (hn : 1 ≤ n) (h : row l = some (x, l')) : altG row n acc (124 :: l) = altG row (n - 1) (acc ++ [x]) l' := by
  obtain ⟨n, rfl⟩ : ∃ k, n = k + 1 := ⟨n - 1, by omega⟩
  simp only [altG]
  rw [if_pos (by simp [startsW])]
  show (match row l with | none => none | some (x, l') => altG row n (acc ++ [x]) l') = _
  rw [h]
  rfl
/-- A pattern doesn't begin with a question mark. -/
theorem no_quest {d : Nat} {l : List Int} {y : RX × List Int} (h : patL d l = some y) : startsW [63, 58] l = false := by
  cases hs : startsW [63, 58] l with
  | false => rfl
  | true =>
    cases l with
    | nil => simp [startsW] at hs
    | cons c l =>
      simp only [startsW, Bool.and_eq_true, beq_iff_eq] at hs
      obtain ⟨rfl, _⟩ := hs
      obtain ⟨pat, hp⟩ := patL_eq d
      have ht : termP pat (63 :: l) = none := by simp [termP, startsW, atomP, synB]
      have hr : rowP pat (63 :: l) = none := by
        unfold rowP
        rw [row_none (by simp) (by decide) ht]
      rw [hp, patP, hr] at h
      simp at h
theorem counted_same {x : RX} {l : List Int} (h1 : startsW [42] l = false) (h2 : startsW [43] l = false) (h3 : startsW [63] l = false) (h4 : startsW [123] l = false) : countedL x l = some (x, l) := by
  simp [countedL, h1, h2, h3, h4]
theorem term_group {pat : List Int → Option (RX × List Int)} {l rest : List Int} {x : RX} (h : groupP pat l = some (x, rest)) (hr : countedL x rest = some (x, rest)) : termP pat (40 :: l) = some (x, rest) := by
  simp [termP, startsW, atomP, h, hr]
theorem grp1 {D d : Nat} {l : List Int} {x : RX} (h : patL D l = some (x, [])) (hc : l.count 40 ≤ d) (t : List Int) : groupP (patL d) (63 :: 58 :: (l ++ 41 :: t)) = some (x, t) := by
  have := (patL_tl D d l x [] hc h).2 t
  unfold groupP
  rw [if_pos (by simp [startsW])]
  show (match patL d (l ++ 41 :: t) with | none => none | some (x, l1) => if startsW [41] l1 = true then some (x, l1.drop 1) else none) = _
  rw [this]
  simp [startsW]
theorem grp2 {D d : Nat} {l : List Int} {x : RX} (h : patL D l = some (x, [])) (hc : l.count 40 ≤ d) (t : List Int) : groupP (patL d) (l ++ 41 :: t) = some (x, t) := by
  have := (patL_tl D d l x [] hc h).2 t
  unfold groupP
  rw [sw_tail _ _ _ (by decide), no_quest h, if_neg (by decide), this]
  simp [startsW]
theorem parseL_some {l : List Int} {x : RX} (h : parseL l = some x) : patL 200 l = some (x, []) := by
  unfold parseL at h
  cases e : patL 200 l with
  | none => rw [e] at h; simp at h
  | some y =>
    obtain ⟨z, r⟩ := y
    rw [e] at h
    cases r with
    | nil => simp at h; rw [h]
    | cons c r => simp at h
theorem parse_seq {la lb : List Int} {x y : RX} (ha : parseL la = some x) (hb : parseL lb = some y) (ca : la.count 40 ≤ 190) (cb : lb.count 40 ≤ 190) :
    parseL (40 :: 63 :: 58 :: (la ++ 41 :: 40 :: (lb ++ [41]))) = some (.mk 3 [] 0 0 false [x, y]) := by
  have g1 := grp1 (d := 199) (parseL_some ha) (by omega) (40 :: (lb ++ [41]))
  have g2 := grp2 (d := 199) (parseL_some hb) (by omega) []
  have t1 := term_group g1 (counted_same (by simp [startsW]) (by simp [startsW]) (by simp [startsW]) (by simp [startsW]))
  have t2 := term_group g2 (counted_same rfl rfl rfl rfl)
  have hr : rowP (patL 199) (40 :: 63 :: 58 :: (la ++ 41 :: 40 :: (lb ++ [41]))) = some (.mk 3 [] 0 0 false [x, y], []) := by
    unfold rowP
    rw [row_step (by simp) (by decide) t1, row_step (by simp) (by decide) t2, row_end]
    rfl
  unfold parseL
  rw [show patL 200 = patP (patL 199) from rfl, patP, hr]
  rfl
theorem parse_alt {la lb : List Int} {x y : RX} (ha : parseL la = some x) (hb : parseL lb = some y) (ca : la.count 40 ≤ 190) (cb : lb.count 40 ≤ 190) :
    parseL (40 :: (la ++ 41 :: 124 :: 40 :: 63 :: 58 :: (lb ++ [41]))) = some (.mk 4 [] 0 0 false [x, y]) := by
  have g1 := grp2 (d := 199) (parseL_some ha) (by omega) (124 :: 40 :: 63 :: 58 :: (lb ++ [41]))
  have g2 := grp1 (d := 199) (parseL_some hb) (by omega) []
  have t1 := term_group g1 (counted_same (by simp [startsW]) (by simp [startsW]) (by simp [startsW]) (by simp [startsW]))
  have t2 := term_group g2 (counted_same rfl rfl rfl rfl)
  have hr : rowP (patL 199) (40 :: (la ++ 41 :: 124 :: 40 :: 63 :: 58 :: (lb ++ [41]))) = some (x, 124 :: 40 :: 63 :: 58 :: (lb ++ [41])) := by
    unfold rowP
    rw [row_step (by simp) (by decide) t1, row_stop (Or.inl rfl)]
    rfl
  have hr2 : rowP (patL 199) (40 :: 63 :: 58 :: (lb ++ [41])) = some (y, []) := by
    unfold rowP
    rw [row_step (by simp) (by decide) t2, row_end]
    rfl
  unfold parseL
  rw [show patL 200 = patP (patL 199) from rfl, patP, hr]
  simp only
  rw [alt_step (by simp) hr2, alt_end rfl]
  rfl
theorem parse_in {la : List Int} {x : RX} (ha : parseL la = some x) (ca : la.count 40 ≤ 190) : parseL (40 :: 40 :: 63 :: 58 :: (la ++ [41, 41])) = some x := by
  have g1 := grp1 (d := 198) (parseL_some ha) (by omega) [41]
  have t1 := term_group g1 (counted_same rfl rfl rfl rfl)
  have hr : rowP (patL 198) (40 :: 63 :: 58 :: (la ++ [41, 41])) = some (x, [41]) := by
    unfold rowP
    rw [row_step (by simp) (by decide) t1, row_stop (Or.inr rfl)]
    rfl
  have hp : patL 199 (40 :: 63 :: 58 :: (la ++ [41, 41])) = some (x, [41]) := by
    rw [show patL 199 = patP (patL 198) from rfl, patP, hr]
    simp only
    rw [alt_end rfl]
    rfl
  have hg : groupP (patL 199) (40 :: 63 :: 58 :: (la ++ [41, 41])) = some (x, []) := by
    unfold groupP
    rw [if_neg (by simp [startsW]), hp]
    rfl
  have t2 := term_group hg (counted_same rfl rfl rfl rfl)
  have hr2 : rowP (patL 199) (40 :: 40 :: 63 :: 58 :: (la ++ [41, 41])) = some (x, []) := by
    unfold rowP
    rw [row_step (by simp) (by decide) t2, row_end]
    rfl
  unfold parseL
  rw [show patL 200 = patP (patL 199) from rfl, patP, hr2]
  rfl
/-- The three texts. -/
def seqT (a b : ByteArray) : ByteArray := ⟨#[40, 63, 58]⟩ ++ a ++ ⟨#[41, 40]⟩ ++ b ++ ⟨#[41]⟩
def altT (a b : ByteArray) : ByteArray := ⟨#[40]⟩ ++ a ++ ⟨#[41, 124, 40, 63, 58]⟩ ++ b ++ ⟨#[41]⟩
def inT (a : ByteArray) : ByteArray := ⟨#[40, 40, 63, 58]⟩ ++ a ++ ⟨#[41, 41]⟩
theorem parseS_some {s : ByteArray} {x : RX} (h : parseS s = some x) : Utf s.data.toList (ptsS s) ∧ parseL (ptsS s) = some x := by
  unfold parseS at h
  cases e : okS s with
  | false => rw [e] at h; simp at h
  | true =>
    rw [e, if_pos rfl] at h
    simp only [okS, Bool.and_eq_true] at e
    exact ⟨goodS_utf e.2, h⟩
theorem parseS_of {s : ByteArray} {ps : List Int} (hu : Utf s.data.toList ps) (hs : s.size ≤ 4096) : parseS s = parseL ps := by
  obtain ⟨h1, h2⟩ := utf_goodS hu
  unfold parseS okS
  rw [h1, decide_eq_true hs, h2]
  rfl
theorem groups_spec {a b : ByteArray} {x y : RX} (ha : parseS a = some x) (hb : parseS b = some y) (hs : a.size + b.size ≤ 4000) (ca : a.data.toList.count 40 ≤ 190) (cb : b.data.toList.count 40 ≤ 190) :
    parseS (seqT a b) = some (.mk 3 [] 0 0 false [x, y]) ∧ parseS (altT a b) = some (.mk 4 [] 0 0 false [x, y]) ∧ parseS (inT a) = some x := by
  obtain ⟨ua, pa⟩ := parseS_some ha
  obtain ⟨ub, pb⟩ := parseS_some hb
  have c1 := Nat.le_trans ua.opens ca
  have c2 := Nat.le_trans ub.opens cb
  refine ⟨?_, ?_, ?_⟩
  · have u := ((((Utf.ascii [40, 63, 58] (by decide)).app ua).app (Utf.ascii [41, 40] (by decide))).app ub).app (Utf.ascii [41] (by decide))
    have e : (seqT a b).data.toList = [40, 63, 58] ++ a.data.toList ++ [41, 40] ++ b.data.toList ++ [41] := by simp [seqT]
    rw [parseS_of (e ▸ u) (by have hz : (seqT a b).size = 3 + a.size + 2 + b.size + 1 := (by unfold seqT; simp only [ByteArray.size_append]; rfl); omega), ← parse_seq pa pb c1 c2]
    simp
  · have u := ((((Utf.ascii [40] (by decide)).app ua).app (Utf.ascii [41, 124, 40, 63, 58] (by decide))).app ub).app (Utf.ascii [41] (by decide))
    have e : (altT a b).data.toList = [40] ++ a.data.toList ++ [41, 124, 40, 63, 58] ++ b.data.toList ++ [41] := by simp [altT]
    rw [parseS_of (e ▸ u) (by have hz : (altT a b).size = 1 + a.size + 5 + b.size + 1 := (by unfold altT; simp only [ByteArray.size_append]; rfl); omega), ← parse_alt pa pb c1 c2]
    simp
  · have u := ((Utf.ascii [40, 40, 63, 58] (by decide)).app ua).app (Utf.ascii [41, 41] (by decide))
    have e : (inT a).data.toList = [40, 40, 63, 58] ++ a.data.toList ++ [41, 41] := by simp [inT]
    rw [parseS_of (e ▸ u) (by have hz : (inT a).size = 4 + a.size + 2 := (by unfold inT; simp only [ByteArray.size_append]; rfl); omega), ← parse_in pa c1]
    simp
end Go.Proofs.YtannjmgnbfbpjaaDoor
