/-
  What the code points of a number, of a class's items and of a class are read as. No condition.
-/
import Derived.Test.YtppilokmgdpnnaaGreatDoorJoined1
namespace Go.Proofs.YtppilokmgdpnnaaGreatDoor

/-- A hexadecimal digit as a code point. -/
def hxI (d : Int) : Int := if d < 10 then 48 + d else 87 + d
theorem hexD_hxI (d : Int) (h0 : 0 ≤ d) (h1 : d < 16) : hexD (hxI d) = some d := by
  unfold hxI hexD dig isDig
  by_cases h : d < 10
  · rw [if_pos h, if_neg (by omega), if_neg (by omega), if_pos (by simp; omega)]
    congr 1; omega
  · rw [if_neg h, if_pos (by omega)]
    congr 1; omega
/-- One number's code points. -/
def ptP (sp : List Int) (p : Int) : List Int :=
  if 9 ≤ p ∧ p ≤ 13 then [92, [116, 110, 118, 102, 114].getD (p - 9).toNat 0]
  else if p < 32 ∨ p = 127 then [92, 120, hxI (p / 16), hxI (p % 16)]
  else if sp.contains p = true then [92, p] else [p]
def synP : List Int := [94, 36, 92, 46, 42, 43, 63, 40, 41, 91, 93, 123, 125, 124]
def clsP : List Int := [92, 93, 94, 45]
theorem hexG2 (p : Int) (h0 : 0 ≤ p) (h1 : p < 256) (rest : List Int) : hexG 2 0 (hxI (p / 16) :: hxI (p % 16) :: rest) = some (p, rest) := by
  have e1 := hexD_hxI (p / 16) (by omega) (by omega)
  have e2 := hexD_hxI (p % 16) (by omega) (by omega)
  simp only [hexG, e1, e2]
  congr 2; omega
theorem named_x : namedBy 120 = none := by decide
theorem named_of {c : Int} (h : c ≠ 100 ∧ c ≠ 119 ∧ c ≠ 115 ∧ c ≠ 68 ∧ c ≠ 87 ∧ c ≠ 83) : namedBy c = none := by
  unfold namedBy
  rw [if_neg h.1, if_neg h.2.1, if_neg h.2.2.1, if_neg h.2.2.2.1, if_neg h.2.2.2.2.1, if_neg h.2.2.2.2.2]
theorem esc_ctl (p : Int) (h : 9 ≤ p ∧ p ≤ 13) (rest : List Int) : escapeL ([116, 110, 118, 102, 114].getD (p - 9).toNat 0 :: rest) = some (.one p, rest) := by
  obtain rfl | rfl | rfl | rfl | rfl : p = 9 ∨ p = 10 ∨ p = 11 ∨ p = 12 ∨ p = 13 := by omega
  all_goals simp [escapeL, namedBy, escapedL]
theorem esc_hex (p : Int) (h0 : 0 ≤ p) (h1 : p < 256) (rest : List Int) : escapeL (120 :: hxI (p / 16) :: hxI (p % 16) :: rest) = some (.one p, rest) := by
  unfold escapeL
  simp only [named_x]
  unfold escapedL
  rw [if_neg (by decide), if_neg (by decide), if_neg (by decide), if_neg (by decide), if_neg (by decide), if_neg (by decide), if_neg (by decide), if_pos rfl, hexG2 p h0 h1]
theorem esc_syn (p : Int) (h : synS p = true) (rest : List Int) : escapeL (p :: rest) = some (.one p, rest) := by
  have hm : p ∈ [94, 36, 92, 46, 42, 43, 63, 40, 41, 91, 93, 123, 125, 124, (47 : Int)] := List.contains_iff_mem.1 h
  simp only [List.mem_cons, List.not_mem_nil, or_false] at hm
  rcases hm with rfl | rfl | rfl | rfl | rfl | rfl | rfl | rfl | rfl | rfl | rfl | rfl | rfl | rfl | rfl <;> simp [escapeL, namedBy, escapedL, synS]
theorem pt_lo {p : Int} (h : isPt p = true) : 0 ≤ p ∧ p ≤ 1114111 := by
  unfold isPt at h; simp at h; omega
/-- A number as an atom. -/
theorem atom_pt (pat : List Int → Option (RX × List Int)) (p : Int) (h : 0 ≤ p) (rest : List Int) : atomP pat (ptP synP p ++ rest) = some (setX [(p, p)], rest) := by
  unfold ptP
  split
  · rename_i h9
    show atomP pat (92 :: ([116, 110, 118, 102, 114].getD (p - 9).toNat 0 :: rest)) = _
    simp only [atomP]
    rw [if_neg (by decide), if_neg (by decide), if_neg (by decide), if_pos trivial, esc_ctl p h9]
    rfl
  · split
    · rename_i h9 h32
      show atomP pat (92 :: (120 :: hxI (p / 16) :: hxI (p % 16) :: rest)) = _
      simp only [atomP]
      rw [if_neg (by decide), if_neg (by decide), if_neg (by decide), if_pos trivial, esc_hex p h (by omega)]
      rfl
    · split
      · rename_i hc
        show atomP pat (92 :: (p :: rest)) = _
        simp only [atomP]
        have hs : synS p = true := by
          have := List.contains_iff_mem.1 hc
          unfold synS
          rw [List.contains_iff_mem]
          simp only [synP, List.mem_cons, List.not_mem_nil, or_false] at this ⊢
          omega
        rw [if_neg (by decide), if_neg (by decide), if_neg (by decide), if_pos trivial, esc_syn p hs]
        rfl
      · rename_i hc
        show atomP pat (p :: rest) = _
        have hn : synB p = false := by
          cases e : synB p
          · rfl
          · exact absurd e hc
        have hm : p ∉ [94, 36, 92, 46, 42, 43, 63, 40, 41, 91, 93, 123, 125, (124 : Int)] := fun hm => hc (List.contains_iff_mem.2 hm)
        simp only [List.mem_cons, List.not_mem_nil, or_false, not_or] at hm
        simp only [atomP]
        rw [if_neg (by omega), if_neg (by omega), if_neg (by omega), if_neg (by omega), hn, if_neg (by decide)]
/-- A number as a class's mark. -/
theorem mark_pt (p : Int) (h : 0 ≤ p) (rest : List Int) : markL (ptP clsP p ++ rest) = some (.one p, rest) := by
  unfold ptP
  split
  · rename_i h9
    show markL (92 :: ([116, 110, 118, 102, 114].getD (p - 9).toNat 0 :: rest)) = _
    obtain rfl | rfl | rfl | rfl | rfl : p = 9 ∨ p = 10 ∨ p = 11 ∨ p = 12 ∨ p = 13 := by omega
    all_goals simp [markL, startsW, escapeL, namedBy, escapedL]
  · split
    · rename_i h9 h32
      show markL (92 :: (120 :: hxI (p / 16) :: hxI (p % 16) :: rest)) = _
      have := esc_hex p h (by omega) rest
      simp [markL, startsW, this]
    · split
      · rename_i hc
        have hm := List.contains_iff_mem.1 hc
        simp only [clsP, List.mem_cons, List.not_mem_nil, or_false] at hm
        rcases hm with rfl | rfl | rfl | rfl <;> simp [markL, startsW, escapeL, namedBy, escapedL, synS]
      · rename_i hc
        have hm : p ∉ [92, 93, 94, (45 : Int)] := fun hm => hc (List.contains_iff_mem.2 hm)
        simp only [List.mem_cons, List.not_mem_nil, or_false, not_or] at hm
        have e : (p == 92) = false := by simpa using hm.1
        show markL (p :: rest) = _
        simp only [markL, startsW, e, Bool.false_and, Bool.false_eq_true, if_false]
/-- How a number's code points in a class begin. -/
theorem ptP_cls (p : Int) : ∃ c r, ptP clsP p = c :: r ∧ c ≠ 45 ∧ c ≠ 93 ∧ c ≠ 94 := by
  unfold ptP
  split
  · exact ⟨_, _, rfl, by decide, by decide, by decide⟩
  · split
    · exact ⟨_, _, rfl, by decide, by decide, by decide⟩
    · split
      · exact ⟨_, _, rfl, by decide, by decide, by decide⟩
      · rename_i hc
        have hm : p ∉ [92, 93, 94, (45 : Int)] := fun hm => hc (List.contains_iff_mem.2 hm)
        simp only [List.mem_cons, List.not_mem_nil, or_false, not_or] at hm
        exact ⟨_, _, rfl, by omega, by omega, by omega⟩
/-- A class's items. -/
def itP (r : Int × Int) : List Int := ptP clsP r.1 ++ (if r.1 + 1 < r.2 then [45] else []) ++ (if r.1 < r.2 then ptP clsP r.2 else [])
def itsP (l : List (Int × Int)) : List Int := (l.map itP).flatten
/-- What an item is read as. -/
def itR (r : Int × Int) : List (Int × Int) := if r.1 + 1 = r.2 then [(r.1, r.1), (r.2, r.2)] else [r]
/-- What may stand behind an item. -/
def NoDash (l : List Int) : Prop := ∃ c r, l = c :: r ∧ c ≠ 45
theorem item_one (p : Int) (h : 0 ≤ p) (rest : List Int) (hr : NoDash rest) : itemL (ptP clsP p ++ rest) = some ([(p, p)], rest) := by
  unfold itemL
  rw [mark_pt p h]
  obtain ⟨c, r, rfl, hc⟩ := hr
  simp only
  rw [if_pos (Or.inl (by simpa [pk] using hc))]
  rfl
theorem item_two (a b : Int) (h : 0 ≤ a) (hb : a ≤ b) (rest : List Int) : itemL (ptP clsP a ++ (45 :: (ptP clsP b ++ rest))) = some ([(a, b)], rest) := by
  unfold itemL
  rw [mark_pt a h]
  obtain ⟨c, r, e, _, hc, _⟩ := ptP_cls b
  have hm := mark_pt b (by omega) rest
  simp only
  rw [if_neg (by
    rintro (h1 | h1)
    · exact h1 rfl
    · rw [e] at h1; simp [pk] at h1; exact hc h1)]
  rw [List.drop_one, List.tail_cons, hm]
  simp only [between]
  rw [if_neg (by omega)]
theorem noDash_pt (p : Int) (rest : List Int) : NoDash (ptP clsP p ++ rest) := by
  obtain ⟨c, r, e, h, _⟩ := ptP_cls p
  exact ⟨c, r ++ rest, by rw [e]; rfl, h⟩
theorem noClose (p : Int) (rest : List Int) : startsW [93] (ptP clsP p ++ rest) = false ∧ startsW [94] (ptP clsP p ++ rest) = false := by
  obtain ⟨c, r, e, _, h, h2⟩ := ptP_cls p
  rw [e]
  have : (c == 93) = false := by simpa using h
  have h2 : (c == 94) = false := by simpa using h2
  simp [startsW, this, h2]
/-- One item of the text is one or two that are read. -/
theorem items_step (n : Nat) (acc : List (Int × Int)) (r : Int × Int) (h : 0 ≤ r.1) (h2 : r.1 ≤ r.2) (rest : List Int) (hr : NoDash rest) : itemsG (n + 2) acc (itP r ++ rest) = itemsG (if r.1 + 1 = r.2 then n else n + 1) (acc ++ itR r) rest := by
  obtain ⟨a, b⟩ := r
  simp only at h h2 ⊢
  unfold itP itR
  simp only
  by_cases e1 : a + 1 = b
  · subst e1
    rw [if_neg (by omega), if_pos (by omega), if_pos rfl, if_pos rfl, List.append_nil, List.append_assoc]
    rw [itemsG, if_neg (by rw [(noClose a _).1]; decide), item_one a h _ (noDash_pt _ _)]
    simp only
    rw [itemsG, if_neg (by rw [(noClose (a + 1) _).1]; decide), item_one (a + 1) (by omega) _ hr]
    simp
  · rw [if_neg e1, if_neg e1]
    by_cases e2 : a < b
    · rw [if_pos (by omega), if_pos e2, List.append_assoc, List.append_assoc]
      rw [itemsG, if_neg (by rw [(noClose a _).1]; decide)]
      show (match itemL (ptP clsP a ++ (45 :: (ptP clsP b ++ rest))) with | none => none | some (r, l') => itemsG (n + 1) (acc ++ r) l') = _
      rw [item_two a b h h2]
    · obtain rfl : a = b := by omega
      rw [if_neg (by omega), if_neg e2, List.append_nil, List.append_nil]
      rw [itemsG, if_neg (by rw [(noClose a _).1]; decide), item_one a h _ hr]
theorem itP_len (r : Int × Int) : 1 ≤ (itP r).length ∧ (r.1 + 1 = r.2 → 2 ≤ (itP r).length) := by
  obtain ⟨c, q, e, _⟩ := ptP_cls r.1
  obtain ⟨c2, q2, e2, _⟩ := ptP_cls r.2
  unfold itP
  rw [e, e2]
  refine ⟨by simp only [List.length_append, List.length_cons]; omega, fun h => ?_⟩
  rw [if_pos (by omega : r.1 < r.2)]
  simp only [List.length_append, List.length_cons]; omega
theorem noDash_its (l : List (Int × Int)) (rest : List Int) : NoDash (itsP l ++ (93 :: rest)) := by
  cases l with
  | nil => exact ⟨93, rest, rfl, by decide⟩
  | cons r l =>
    obtain ⟨c, q, e, h, _⟩ := ptP_cls r.1
    refine ⟨c, ?_, ?_, h⟩
    · exact q ++ ((if r.1 + 1 < r.2 then [45] else []) ++ (if r.1 < r.2 then ptP clsP r.2 else []) ++ (itsP l ++ (93 :: rest)))
    · simp [itsP, itP, e]
theorem items_all : ∀ (l : List (Int × Int)) (n : Nat) (acc : List (Int × Int)) (rest : List Int), (∀ r ∈ l, 0 ≤ r.1 ∧ r.1 ≤ r.2) → (itsP l).length + 1 ≤ n → itemsG n acc (itsP l ++ (93 :: rest)) = some (acc ++ (l.map itR).flatten, rest)
  | [], n, acc, rest, _, hn => by
    obtain ⟨m, rfl⟩ : ∃ m, n = m + 1 := ⟨n - 1, by simp [itsP] at hn; omega⟩
    simp [itsP, itemsG, startsW]
  | r :: l, n, acc, rest, h, hn => by
    have e : itsP (r :: l) = itP r ++ itsP l := by simp [itsP]
    rw [e, List.length_append] at hn
    have hl := itP_len r
    obtain ⟨m, rfl⟩ : ∃ m, n = m + 2 := ⟨n - 2, by omega⟩
    obtain ⟨h1, h2⟩ := h r (by simp)
    rw [e, List.append_assoc, items_step m acc r h1 h2 _ (noDash_its l rest)]
    rw [items_all l _ _ rest (fun x hx => h x (List.mem_cons_of_mem _ hx)) (by
      split
      · rename_i hq; have := hl.2 hq; omega
      · omega)]
    simp
theorem mem_itR (l : List (Int × Int)) (h : ∀ r ∈ l, r.1 ≤ r.2) (p : Int) : mem p (l.map itR).flatten ↔ mem p l := by
  induction l with
  | nil => simp
  | cons r l ih =>
    rw [List.map_cons, List.flatten_cons, mem_append, mem_cons, ih (fun x hx => h x (List.mem_cons_of_mem _ hx))]
    have : mem p (itR r) ↔ r.1 ≤ p ∧ p ≤ r.2 := by
      have hr := h r (by simp)
      unfold itR
      split
      · rw [mem_cons, mem_cons]
        constructor
        · rintro (⟨a, b⟩ | ⟨a, b⟩ | hn)
          · exact ⟨by omega, by omega⟩
          · exact ⟨by omega, by omega⟩
          · exact absurd hn (mem_nil p)
        · rintro ⟨a, b⟩
          by_cases e : p = r.1
          · exact Or.inl ⟨by omega, by omega⟩
          · exact Or.inr (Or.inl ⟨by simp only; omega, by simp only; omega⟩)
      · rw [mem_cons]
        exact ⟨fun h => h.elim id (fun hn => absurd hn (mem_nil p)), Or.inl⟩
    rw [this]
theorem merge_itR {l : List (Int × Int)} (h : Can l) : mergeL (l.map itR).flatten = l := can_inj (merge_can _) h fun p => by
  rw [mem_merge, mem_itR l (fun r hr => (h.ok r hr).2.1)]
  refine ⟨fun hp => hp.2, fun hp => ⟨?_, hp⟩⟩
  obtain ⟨r, hr, h1, h2⟩ := hp
  have := h.ok r hr
  unfold okR at this
  omega
theorem turn_itR {l : List (Int × Int)} (h : Can l) : mergeL (turnL ((turnL l).map itR).flatten) = l := can_inj (merge_can _) h fun p => by
  have hc := turn_can l
  rw [mem_merge, mem_turn, mem_itR _ (fun r hr => (hc.ok r hr).2.1), mem_turn]
  constructor
  · rintro ⟨hp, _, hn⟩
    exact Classical.byContradiction fun hc => hn ⟨hp, hc⟩
  · intro hp
    have hb : 0 ≤ p ∧ p ≤ 1114111 := by
      obtain ⟨r, hr, h1, h2⟩ := hp
      have := h.ok r hr
      unfold okR at this
      omega
    exact ⟨hb, hb, fun hn => hn.2 hp⟩
/-- A class. -/
theorem class_str {l : List (Int × Int)} (h : Can l) (rest : List Int) : classL (itsP l ++ (93 :: rest)) = some (.mk 2 l 0 0 false [], rest) := by
  have hn : startsW [94] (itsP l ++ (93 :: rest)) = false := by
    cases l with
    | nil => simp [itsP, startsW]
    | cons r l =>
      have e : itsP (r :: l) ++ (93 :: rest) = ptP clsP r.1 ++ ((if r.1 + 1 < r.2 then [45] else []) ++ (if r.1 < r.2 then ptP clsP r.2 else []) ++ (itsP l ++ (93 :: rest))) := by simp [itsP, itP]
      rw [e]; exact (noClose _ _).2
  unfold classL
  rw [if_neg (by rw [hn]; decide), items_all l _ [] rest (fun r hr => ⟨(h.ok r hr).1, (h.ok r hr).2.1⟩) (by simp)]
  simp only [hn, Bool.false_eq_true, if_false, List.nil_append, setX, merge_itR h]
theorem class_oth {l : List (Int × Int)} (h : Can l) (rest : List Int) : classL (94 :: (itsP (turnL l) ++ (93 :: rest))) = some (.mk 2 l 0 0 false [], rest) := by
  have hc := turn_can l
  have hn : startsW [94] (94 :: (itsP (turnL l) ++ (93 :: rest))) = true := by simp [startsW]
  unfold classL
  rw [if_pos hn, List.drop_one, List.tail_cons, items_all (turnL l) _ [] rest (fun r hr => ⟨(hc.ok r hr).1, (hc.ok r hr).2.1⟩) (by simp; omega)]
  simp only [hn, if_true, List.nil_append, setX, turn_itR h]
end Go.Proofs.YtppilokmgdpnnaaGreatDoor
