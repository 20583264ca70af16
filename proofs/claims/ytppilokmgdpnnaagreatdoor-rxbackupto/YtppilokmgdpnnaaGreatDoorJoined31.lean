/-
  What a count, a group, a row and a choice, written as code points, are read as. No condition.
  How many levels a tree has, and that a tree that may be is so at its own levels. No condition.
-/
import Derived.Test.YtppilokmgdpnnaaGreatDoorJoined30
import Derived.Test.YtppilokmgdpnnaaGreatDoorJoined26
namespace Go.Proofs.YtppilokmgdpnnaaGreatDoor

/-- A count's code points. -/
def decP (u : Nat) : List Int := if _h : u < 10 then [((48 + u : Nat) : Int)] else decP (u / 10) ++ [((48 + u % 10 : Nat) : Int)]
termination_by u
decreasing_by omega
theorem decP_lo {u : Nat} (h : u < 10) : decP u = [((48 + u : Nat) : Int)] := by unfold decP; rw [dif_pos h]
theorem decP_hi {u : Nat} (h : ¬ u < 10) : decP u = decP (u / 10) ++ [((48 + u % 10 : Nat) : Int)] := by
  conv => lhs; unfold decP
  rw [dif_neg h]
theorem count_dec (u : Nat) (hu : u ≤ 1000) (rest : List Int) : countL (decP u ++ rest) = countG (u : Int) rest := by
  induction u using Nat.strongRecOn generalizing rest with
  | _ u ih =>
    by_cases h : u < 10
    · rw [decP_lo h]
      show countL (((48 + u : Nat) : Int) :: rest) = _
      unfold countL
      simp only
      rw [if_pos (by unfold isDig; simp; omega)]
      congr 1; omega
    · rw [decP_hi h, List.append_assoc, ih (u / 10) (by omega) (by omega)]
      show countG ((u / 10 : Nat) : Int) (((48 + u % 10 : Nat) : Int) :: rest) = _
      rw [countG, if_pos (by unfold isDig; simp; omega), if_neg (by omega)]
      congr 1; omega
theorem count_stop (n c : Int) (h : isDig c = false) (rest : List Int) : countG n (c :: rest) = some (n, c :: rest) := by
  rw [countG, if_neg (by rw [h]; decide)]
def greedyP (a b : Int) : List Int :=
  if a = 0 ∧ b = -1 then [42] else if a = 1 ∧ b = -1 then [43] else if a = 0 ∧ b = 1 then [63]
  else if b = -1 then 123 :: (decP a.toNat ++ [44, 125]) else if a = b then 123 :: (decP a.toNat ++ [125])
  else 123 :: (decP a.toNat ++ 44 :: (decP b.toNat ++ [125]))
def cnP (a b : Int) (z : Bool) : List Int := greedyP a b ++ if z then [63] else []
/-- What may stand behind a term. -/
def OkT (l : List Int) : Prop := ∀ c r, l = c :: r → c ≠ 42 ∧ c ≠ 43 ∧ c ≠ 63 ∧ c ≠ 123
theorem OkT.sw {l : List Int} (h : OkT l) : startsW [42] l = false ∧ startsW [43] l = false ∧ startsW [63] l = false ∧ startsW [123] l = false := by
  cases l with
  | nil => exact ⟨rfl, rfl, rfl, rfl⟩
  | cons c r =>
    obtain ⟨h1, h2, h3, h4⟩ := h c r rfl
    have e1 : (c == 42) = false := by simpa using h1
    have e2 : (c == 43) = false := by simpa using h2
    have e3 : (c == 63) = false := by simpa using h3
    have e4 : (c == 123) = false := by simpa using h4
    simp [startsW, e1, e2, e3, e4]
theorem lazy_any (x : RX) (a b : Int) (z : Bool) (rest : List Int) (hr : OkT rest) : lazyX x a b ((if z then [63] else []) ++ rest) = (.mk 5 [] a b z [x], rest) := by
  unfold lazyX
  cases z
  · have := hr.sw.2.2.1
    simp [this]
  · simp [startsW]
theorem counted_cn (x : RX) (a b : Int) (z : Bool) (ha : 0 ≤ a ∧ a ≤ 1000) (hb : b = -1 ∨ (a ≤ b ∧ b ≤ 1000)) (rest : List Int) (hr : OkT rest) : countedL x (cnP a b z ++ rest) = some (.mk 5 [] a b z [x], rest) := by
  unfold cnP
  rw [List.append_assoc]
  have hz := lazy_any x a b z rest hr
  obtain ⟨m, hm⟩ : ∃ m, m = (if z then [63] else []) ++ rest := ⟨_, rfl⟩
  rw [← hm] at hz ⊢
  unfold greedyP
  have key : ∀ l, countsL (l ++ m) = some ((a, b), m) → countedL x (123 :: l ++ m) = some (.mk 5 [] a b z [x], rest) := fun l hl => by
    unfold countedL
    show (if startsW [42] (123 :: (l ++ m)) = true then _ else _) = _
    rw [if_neg (by simp [startsW]), if_neg (by simp [startsW]), if_neg (by simp [startsW]), if_pos (by simp [startsW]), List.drop_one]
    show (match countsL (l ++ m) with | none => none | some (ab, l1) => some (lazyX x ab.1 ab.2 l1)) = _
    rw [hl]; simp only; rw [hz]
  split
  · rename_i h; obtain ⟨rfl, rfl⟩ := h
    unfold countedL
    rw [if_pos (by simp [startsW])]
    show some (lazyX x 0 (-1) m) = _
    rw [hz]
  · split
    · rename_i h; obtain ⟨rfl, rfl⟩ := h
      unfold countedL
      rw [if_neg (by simp [startsW]), if_pos (by simp [startsW])]
      show some (lazyX x 1 (-1) m) = _
      rw [hz]
    · split
      · rename_i h; obtain ⟨rfl, rfl⟩ := h
        unfold countedL
        rw [if_neg (by simp [startsW]), if_neg (by simp [startsW]), if_pos (by simp [startsW])]
        show some (lazyX x 0 1 m) = _
        rw [hz]
      · have eA : ((a.toNat : Nat) : Int) = a := by omega
        have cA : ∀ r, countL (decP a.toNat ++ r) = countG a r := fun r => by rw [count_dec a.toNat (by omega) r, eA]
        split
        · rename_i h; subst h
          refine key _ ?_
          rw [List.append_assoc]
          unfold countsL
          rw [cA]
          show (match countG a (44 :: (125 :: m)) with | none => none | some (a, l1) => _) = _
          rw [count_stop a 44 (by decide)]
          simp [startsW]
        · have eB : ((b.toNat : Nat) : Int) = b := by omega
          have cB : ∀ r, countL (decP b.toNat ++ r) = countG b r := fun r => by rw [count_dec b.toNat (by omega) r, eB]
          split
          · rename_i h; subst h
            refine key _ ?_
            rw [List.append_assoc]
            unfold countsL
            rw [cA]
            show (match countG a (125 :: m) with | none => none | some (a, l1) => _) = _
            rw [count_stop a 125 (by decide)]
            simp [startsW]
          · refine key _ ?_
            have hd : ∃ c r, decP b.toNat ++ (125 :: m) = c :: r ∧ c ≠ 125 := by
              have : ∀ u : Nat, ∃ c r, decP u = c :: r ∧ c ≠ 125 := fun u => by
                induction u using Nat.strongRecOn with
                | _ u ih =>
                  by_cases h : u < 10
                  · rw [decP_lo h]; exact ⟨_, _, rfl, by omega⟩
                  · obtain ⟨c, r, e, h2⟩ := ih (u / 10) (by omega)
                    rw [decP_hi h, e]; exact ⟨_, _, rfl, h2⟩
              obtain ⟨c, r, e, h2⟩ := this b.toNat
              exact ⟨c, r ++ (125 :: m), by rw [e]; rfl, h2⟩
            obtain ⟨c, r, ec, hc⟩ := hd
            have el : (decP a.toNat ++ 44 :: (decP b.toNat ++ [125])) ++ m = decP a.toNat ++ (44 :: (decP b.toNat ++ (125 :: m))) := by simp
            rw [el]
            unfold countsL
            rw [cA, count_stop a 44 (by decide)]
            simp only
            rw [if_neg (by simp [startsW]), if_neg (by rw [ec]; simp [startsW]; exact hc), if_pos (by simp [startsW])]
            rw [List.drop_one, List.tail_cons, cB, count_stop b 125 (by decide)]
            simp only
            rw [if_pos (by simp [startsW]), if_neg (by omega)]
            simp
/-- The group's reader: none below, then one level each. -/
def patQ : Nat → List Int → Option (RX × List Int)
  | 0 => fun _ => none
  | e + 1 => patP (patQ e)
theorem patL_Q : ∀ d, patL d = patQ (d + 1)
  | 0 => rfl
  | d + 1 => by show patP (patL d) = patP (patQ (d + 1)); rw [patL_Q d]
/-- Where a row, and where a pattern, ends. -/
def StopR (l : List Int) : Prop := ∀ c r, l = c :: r → c = 124 ∨ c = 41
def StopP (l : List Int) : Prop := ∀ c r, l = c :: r → c = 41
theorem StopP.r {l : List Int} (h : StopP l) : StopR l := fun c r e => Or.inr (h c r e)
theorem StopR.t {l : List Int} (h : StopR l) : OkT l := fun c r e => by rcases h c r e with rfl | rfl <;> decide
def RdA (e : Nat) (T : List Int) (t : RX) : Prop := ∀ rest, atomP (patQ e) (T ++ rest) = some (t, rest)
def RdT (e : Nat) (T : List Int) (t : RX) : Prop := ∀ rest, OkT rest → termP (patQ e) (T ++ rest) = some (t, rest)
def RdR (e : Nat) (T : List Int) (t : RX) : Prop := ∀ rest, StopR rest → rowP (patQ e) (T ++ rest) = some (t, rest)
def RdP (e : Nat) (T : List Int) (t : RX) : Prop := ∀ rest, StopP rest → patP (patQ e) (T ++ rest) = some (t, rest)
/-- How an atom's, and a term's, code points begin. -/
def BegT (T : List Int) : Prop := ∃ c r, T = c :: r ∧ c ≠ 42 ∧ c ≠ 43 ∧ c ≠ 63 ∧ c ≠ 123 ∧ c ≠ 124 ∧ c ≠ 41
def BegA (T : List Int) : Prop := BegT T ∧ ∀ rest, startsW [94] (T ++ rest) = false ∧ startsW [36] (T ++ rest) = false ∧ startsW [92, 98] (T ++ rest) = false ∧ startsW [92, 66] (T ++ rest) = false
def HdQ (T : List Int) : Prop := ∀ c r, T = c :: r → c ≠ 63
theorem RdA.term {e : Nat} {T : List Int} {t : RX} (h : RdA e T t) (hb : BegA T) : RdT e T t := fun rest hr => by
  obtain ⟨b1, b2, b3, b4⟩ := hb.2 rest
  obtain ⟨s1, s2, s3, s4⟩ := hr.sw
  unfold termP
  rw [b1, b2, b3, b4, h rest]
  simp only [Bool.false_eq_true, if_false]
  unfold countedL
  rw [s1, s2, s3, s4]
  simp
theorem rowG_end (term : List Int → Option (RX × List Int)) (n : Nat) (acc : List RX) (rest : List Int) (h : StopR rest) : rowG term n acc rest = some (acc, rest) := by
  cases n with
  | zero => rfl
  | succ n =>
    cases rest with
    | nil => rfl
    | cons c r => unfold rowG; simp only; rw [if_pos (h c r rfl)]
theorem rowG_step {e : Nat} {T : List Int} {t : RX} (h : RdT e T t) (hb : BegT T) (n : Nat) (acc : List RX) (rest : List Int) (hr : OkT rest) : rowG (termP (patQ e)) (n + 1) acc (T ++ rest) = rowG (termP (patQ e)) n (acc ++ [t]) rest := by
  obtain ⟨c, r, rfl, _, _, _, _, h5, h6⟩ := hb
  have := h rest hr
  rw [List.cons_append] at this ⊢
  conv => lhs; unfold rowG
  simp only
  rw [if_neg (by omega), this]
theorem RdT.row {e : Nat} {T : List Int} {t : RX} (h : RdT e T t) (hb : BegT T) : RdR e T t := fun rest hr => by
  unfold rowP
  obtain ⟨n, hn⟩ : ∃ n, (T ++ rest).length = n + 1 := by
    obtain ⟨c, r, rfl, _⟩ := hb
    exact ⟨(r ++ rest).length, by simp⟩
  rw [hn, rowG_step h hb n [] rest hr.t, rowG_end _ _ _ _ hr]
  rfl
theorem altG_end (row : List Int → Option (RX × List Int)) (n : Nat) (acc : List RX) (rest : List Int) (h : StopP rest) : altG row n acc rest = some (acc, rest) := by
  cases n with
  | zero => rfl
  | succ n =>
    unfold altG
    rw [if_neg]
    cases rest with
    | nil => simp [startsW]
    | cons c r => obtain rfl := h c r rfl; simp [startsW]
theorem RdR.pat {e : Nat} {T : List Int} {t : RX} (h : RdR e T t) : RdP e T t := fun rest hr => by
  unfold patP
  rw [h rest hr.r]
  simp only
  rw [altG_end _ _ _ _ hr]
  rfl
theorem RdP.group {e : Nat} {T : List Int} {t : RX} (h : RdP e T t) (hq : HdQ T) : RdA (e + 1) (40 :: (T ++ [41])) t ∧ BegA (40 :: (T ++ [41])) := by
  refine ⟨fun rest => ?_, ⟨_, _, rfl, by decide, by decide, by decide, by decide, by decide, by decide⟩, fun rest => by simp [startsW]⟩
  have hp := h (41 :: rest) (fun c r e => by injection e with e _; exact e.symm)
  show atomP (patQ (e + 1)) (40 :: (T ++ [41] ++ rest)) = _
  unfold atomP
  simp only
  rw [if_pos trivial]
  unfold groupP
  have hs : startsW [63, 58] (T ++ [41] ++ rest) = false := by
    cases T with
    | nil => simp [startsW]
    | cons c r =>
      have : (c == 63) = false := by simpa using hq c r rfl
      simp [startsW, this]
  rw [hs, if_neg (by decide), List.append_assoc]
  show (match patP (patQ e) (T ++ (41 :: rest)) with | none => none | some (x, l1) => _) = _
  rw [hp]
  simp [startsW]
/-- Terms one behind the other. -/
theorem rowG_all {e : Nat} : ∀ (ts : List RX) (f : RX → List Int) (n : Nat) (acc : List RX) (rest : List Int), (∀ t ∈ ts, RdT e (f t) t ∧ BegT (f t)) → StopR rest → ((ts.map f).flatten ++ rest).length ≤ n →
    rowG (termP (patQ e)) n acc ((ts.map f).flatten ++ rest) = some (acc ++ ts, rest)
  | [], f, n, acc, rest, _, hr, _ => by simpa using rowG_end _ n acc rest hr
  | t :: ts, f, n, acc, rest, h, hr, hn => by
    obtain ⟨h1, h2⟩ := h t (by simp)
    have hlen : 1 ≤ (f t).length := by obtain ⟨c, r, e, _⟩ := h2; rw [e]; simp
    rw [List.map_cons, List.flatten_cons, List.append_assoc, List.length_append] at hn
    obtain ⟨m, rfl⟩ : ∃ m, n = m + 1 := ⟨n - 1, by omega⟩
    rw [List.map_cons, List.flatten_cons, List.append_assoc, rowG_step h1 h2]
    · rw [rowG_all ts f m (acc ++ [t]) rest (fun x hx => h x (List.mem_cons_of_mem _ hx)) hr (by omega)]
      simp
    · cases ts with
      | nil => simpa using hr.t
      | cons u us =>
        obtain ⟨_, c, r, e, c1, c2, c3, c4, _⟩ := h u (by simp)
        intro c' r' e'
        rw [List.map_cons, List.flatten_cons, e] at e'
        injection e' with e1 _
        subst e1
        exact ⟨c1, c2, c3, c4⟩
theorem together_many (k : Int) (l : List RX) (h : 2 ≤ l.length) : together k l = .mk k [] 0 0 false l := by
  match l, h with
  | a :: b :: l, _ => rfl
theorem row_all {e : Nat} (ts : List RX) (f : RX → List Int) (h : ∀ t ∈ ts, RdT e (f t) t ∧ BegT (f t)) (h2 : 2 ≤ ts.length) : RdR e (ts.map f).flatten (.mk 3 [] 0 0 false ts) := fun rest hr => by
  unfold rowP
  rw [rowG_all ts f _ [] rest h hr (Nat.le_refl _)]
  simp only [List.nil_append, together_many 3 ts h2]
theorem altG_all {e : Nat} : ∀ (ts : List RX) (f : RX → List Int) (n : Nat) (acc : List RX) (rest : List Int), (∀ t ∈ ts, RdR e (f t) t) → StopP rest → ts.length ≤ n →
    altG (rowP (patQ e)) n acc ((ts.map fun t => 124 :: f t).flatten ++ rest) = some (acc ++ ts, rest)
  | [], f, n, acc, rest, _, hr, _ => by simpa using altG_end _ n acc rest hr
  | t :: ts, f, n, acc, rest, h, hr, hn => by
    obtain ⟨m, rfl⟩ : ∃ m, n = m + 1 := ⟨n - 1, by simp at hn; omega⟩
    have hst : StopR ((ts.map fun t => 124 :: f t).flatten ++ rest) := by
      cases ts with
      | nil => simpa using hr.r
      | cons u us => intro c r e; simp at e; exact Or.inl e.1.symm
    have h1 := h t (by simp) _ hst
    rw [List.map_cons, List.flatten_cons, List.append_assoc, List.cons_append]
    unfold altG
    rw [if_pos (by simp [startsW]), List.drop_one, List.tail_cons, h1]
    simp only
    rw [altG_all ts f m (acc ++ [t]) rest (fun x hx => h x (List.mem_cons_of_mem _ hx)) hr (by simp at hn; omega)]
    simp
theorem alt_len (ts : List RX) (f : RX → List Int) : ts.length ≤ (ts.map fun t => 124 :: f t).flatten.length := by
  induction ts with
  | nil => simp
  | cons t ts ih => rw [List.map_cons, List.flatten_cons, List.length_append]; simp only [List.length_cons]; omega
theorem pat_all {e : Nat} (t : RX) (ts : List RX) (f : RX → List Int) (h : ∀ x ∈ t :: ts, RdR e (f x) x) (h2 : 1 ≤ ts.length) : RdP e (f t ++ (ts.map fun t => 124 :: f t).flatten) (.mk 4 [] 0 0 false (t :: ts)) := fun rest hr => by
  unfold patP
  have hst : StopR ((ts.map fun t => 124 :: f t).flatten ++ rest) := by
    cases ts with
    | nil => simpa using hr.r
    | cons u us => intro c r e; simp at e; exact Or.inl e.1.symm
  rw [List.append_assoc, h t (by simp) _ hst]
  simp only
  rw [altG_all ts f _ [t] rest (fun x hx => h x (List.mem_cons_of_mem _ hx)) hr (by rw [List.length_append]; have := alt_len ts f; omega)]
  simp only [List.singleton_append, together_many 4 (t :: ts) (by simp; omega)]
end Go.Proofs.YtppilokmgdpnnaaGreatDoor

namespace Go.Proofs.YtppilokmgdpnnaaGreatDoor

mutual
/-- How many levels a tree has. -/
def lvX : RX → Nat
  | .mk _ _ _ _ _ s => lvL s + 1
def lvL : List RX → Nat
  | [] => 0
  | x :: l => max (lvX x) (lvL l)
end
theorem lvL_mem : ∀ (l : List RX) (x : RX), x ∈ l → lvX x ≤ lvL l
  | y :: l, x, h => by
    rw [lvL]
    rcases List.mem_cons.1 h with rfl | h
    · omega
    · have := lvL_mem l x h; omega
theorem lvL_append : ∀ (l : List RX) (x : RX), lvL (l ++ [x]) = max (lvL l) (lvX x)
  | [], x => by simp [lvL]
  | y :: l, x => by rw [List.cons_append, lvL, lvL, lvL_append l x]; omega
theorem lvL_take (l : List RX) (i : Nat) (h : i < l.length) : lvL (l.take (i + 1)) = max (lvL (l.take i)) (lvX l[i]) := by
  rw [List.take_add_one, List.getElem?_eq_getElem h]
  exact lvL_append _ _
/-- A right tree is right at its own levels. -/
theorem right_lv : ∀ (t : RX) (d e : Nat), rightB d t = true → lvX t ≤ e → rightB e t = true := by
  intro t
  induction t using RX.ind with
  | h k r lo hi z s ih =>
    intro d e hr hl
    rw [lvX] at hl
    cases d with
    | zero => simp [rightB] at hr
    | succ d =>
      cases e with
      | zero => omega
      | succ e =>
        simp only [rightB, Bool.and_eq_true, List.all_eq_true] at hr ⊢
        exact ⟨hr.1, fun x hx => ih x hx d e (hr.2 x hx) (by have := lvL_mem s x hx; omega)⟩
theorem lv_right : ∀ (t : RX) (d : Nat), rightB d t = true → lvX t ≤ d := by
  intro t
  induction t using RX.ind with
  | h k r lo hi z s ih =>
    intro d hr
    cases d with
    | zero => simp [rightB] at hr
    | succ d =>
      simp only [rightB, Bool.and_eq_true, List.all_eq_true] at hr
      rw [lvX]
      have : ∀ l : List RX, (∀ x ∈ l, lvX x ≤ d) → lvL l ≤ d := fun l => by
        induction l with
        | nil => intro _; rw [lvL]; omega
        | cons y l ihl => intro h; rw [lvL]; have := h y (by simp); have := ihl (fun x hx => h x (by simp [hx])); omega
      have := this s (fun x hx => ih x hx d (hr.2 x hx))
      omega
end Go.Proofs.YtppilokmgdpnnaaGreatDoor
