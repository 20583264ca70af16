/-
  What a row of code points is read as: the pattern's tree, or none. No condition.
-/
import Derived.Test.YtppilokmgdpnnaaGreatDoorJoined0
namespace Go.Proofs.YtppilokmgdpnnaaGreatDoor

/-- A pattern's tree: kind, ranges, counts, lazy or not, parts. -/
inductive RX where
  | mk (k : Int) (r : List (Int × Int)) (lo hi : Int) (z : Bool) (s : List RX)
theorem RX.ind {P : RX → Prop} (h : ∀ k r lo hi z s, (∀ v ∈ s, P v) → P (.mk k r lo hi z s)) : ∀ v, P v
  | .mk k r lo hi z s => h k r lo hi z s (fun v _ => RX.ind h v)
def RX.kind : RX → Int | .mk k _ _ _ _ _ => k
def RX.sub : RX → List RX | .mk _ _ _ _ _ s => s

/-- What stands so many places further on. -/
def pk (l : List Int) (i : Nat) : Int := l.getD i (-1)
def startsW : List Int → List Int → Bool
  | [], _ => true
  | _ :: _, [] => false
  | a :: s, b :: l => (b == a) && startsW s l
def isDig (c : Int) : Bool := decide (48 ≤ c) && decide (c ≤ 57)
def isLet (c : Int) : Bool := (decide (97 ≤ c) && decide (c ≤ 122)) || (decide (65 ≤ c) && decide (c ≤ 90))
def dig (c : Int) : Option Int := if isDig c = true then some (c - 48) else none
def hexD (c : Int) : Option Int := if 97 ≤ c ∧ c ≤ 102 then some (c - 97 + 10) else if 65 ≤ c ∧ c ≤ 70 then some (c - 65 + 10) else dig c
def isPt (c : Int) : Bool := (decide (0 ≤ c) && decide (c ≤ 55295)) || (decide (57344 ≤ c) && decide (c ≤ 1114111))
def pairO (hi lo : Int) : Option Int := if (55296 ≤ hi ∧ hi ≤ 56319) ∧ 56320 ≤ lo ∧ lo ≤ 57343 then some (65536 + (hi - 55296) * 1024 + (lo - 56320)) else none
/-- The signs of the syntax. -/
def synB (c : Int) : Bool := [94, 36, 92, 46, 42, 43, 63, 40, 41, 91, 93, 123, 125, 124].contains c
def synS (c : Int) : Bool := [94, 36, 92, 46, 42, 43, 63, 40, 41, 91, 93, 123, 125, 124, 47].contains c

def digits : List (Int × Int) := [(48, 57)]
def wordLetters : List (Int × Int) := [(48, 57), (65, 90), (95, 95), (97, 122)]
def spacesL : List (Int × Int) := [(9, 13), (32, 32), (160, 160), (5760, 5760), (8192, 8202), (8232, 8233), (8239, 8239), (8287, 8287), (12288, 12288), (65279, 65279)]
def inLines : List (Int × Int) := turnL [(10, 10), (13, 13), (8232, 8233)]
def namedBy (c : Int) : Option (List (Int × Int)) :=
  if c = 100 then some digits else if c = 119 then some wordLetters else if c = 115 then some spacesL
  else if c = 68 then some (turnL digits) else if c = 87 then some (turnL wordLetters) else if c = 83 then some (turnL spacesL) else none

def hexG : Nat → Int → List Int → Option (Int × List Int)
  | 0, acc, l => some (acc, l)
  | _ + 1, _, [] => none
  | n + 1, acc, c :: l => match hexD c with
    | none => none
    | some d => hexG n (acc * 16 + d) l
def bracedG : Nat → Int → List Int → Option (Int × List Int)
  | 0, _, _ => none
  | n + 1, p, l => if startsW [125] l = true then (if isPt p = true then some (p, l.drop 1) else none) else
    match hexG 1 0 l with
    | none => none
    | some (d, l') => if p * 16 + d > 1114111 then none else bracedG n (p * 16 + d) l'
def bracedL (l : List Int) : Option (Int × List Int) := match hexG 1 0 l with
  | none => none
  | some (p, l1) => bracedG (l1.length + 1) p l1
def unicodeL (l : List Int) : Option (Int × List Int) :=
  if startsW [123] l = true then bracedL (l.drop 1) else
  match hexG 4 0 l with
  | none => none
  | some (p, l1) => if isPt p = true then some (p, l1) else
    if startsW [92, 117] l1 = true then
      match hexG 4 0 (l1.drop 2) with
      | none => none
      | some (q, l2) => match pairO p q with
        | none => none
        | some x => some (x, l2)
    else none
def controlL (l : List Int) : Option (Int × List Int) := match l with
  | [] => none
  | c :: r => if isLet c = true then some (c % 32, r) else none
def noughtL (l : List Int) : Option (Int × List Int) := if isDig (pk l 0) = true then none else some (0, l)
def escapedL (c : Int) (l : List Int) : Option (Int × List Int) :=
  if c = 116 then some (9, l) else if c = 110 then some (10, l) else if c = 118 then some (11, l) else if c = 102 then some (12, l) else if c = 114 then some (13, l)
  else if c = 48 then noughtL l else if c = 99 then controlL l else if c = 120 then hexG 2 0 l else if c = 117 then unicodeL l
  else if synS c = true then some (c, l) else none
/-- A mark: a named set, or one number. -/
inductive Mark where
  | set (l : List (Int × Int))
  | one (p : Int)
def Mark.ranges : Mark → List (Int × Int) | .set l => l | .one p => [(p, p)]
def Mark.named : Mark → Bool | .set _ => true | .one _ => false
def escapeL (l : List Int) : Option (Mark × List Int) := match l with
  | [] => none
  | c :: r => match namedBy c with
    | some s => some (.set s, r)
    | none => match escapedL c r with
      | none => none
      | some (p, r') => some (.one p, r')
def markL (l : List Int) : Option (Mark × List Int) :=
  if startsW [92, 98] l = true then some (.one 8, l.drop 2) else if startsW [92, 45] l = true then some (.one 45, l.drop 2)
  else if startsW [92] l = true then escapeL (l.drop 1) else match l with
    | [] => none
    | c :: r => some (.one c, r)
def between : Mark → Mark → Option (List (Int × Int))
  | .one a, .one b => if a > b then none else some [(a, b)]
  | _, _ => none
def itemL (l : List Int) : Option (List (Int × Int) × List Int) := match markL l with
  | none => none
  | some (m, l1) => if pk l1 0 ≠ 45 ∨ pk l1 1 = 93 then some (m.ranges, l1) else
    match markL (l1.drop 1) with
    | none => none
    | some (m2, l2) => match between m m2 with
      | none => none
      | some r => some (r, l2)
def itemsG : Nat → List (Int × Int) → List Int → Option (List (Int × Int) × List Int)
  | 0, _, _ => none
  | n + 1, acc, l => if startsW [93] l = true then some (acc, l.drop 1) else match itemL l with
    | none => none
    | some (r, l') => itemsG n (acc ++ r) l'
def setX (l : List (Int × Int)) : RX := .mk 2 (mergeL l) 0 0 false []
def classL (l : List Int) : Option (RX × List Int) :=
  match itemsG (l.length + 1) [] (if startsW [94] l = true then l.drop 1 else l) with
  | none => none
  | some (r, l') => some (setX (if startsW [94] l = true then turnL r else r), l')

def countG (n : Int) : List Int → Option (Int × List Int)
  | [] => some (n, [])
  | c :: l => if isDig c = true then (if n * 10 + (c - 48) > 1000 then none else countG (n * 10 + (c - 48)) l) else some (n, c :: l)
def countL (l : List Int) : Option (Int × List Int) := match l with
  | [] => none
  | c :: r => if isDig c = true then countG (c - 48) r else none
def countsL (l : List Int) : Option ((Int × Int) × List Int) := match countL l with
  | none => none
  | some (a, l1) => if startsW [125] l1 = true then some ((a, a), l1.drop 1) else if startsW [44, 125] l1 = true then some ((a, -1), l1.drop 2)
    else if startsW [44] l1 = true then
      match countL (l1.drop 1) with
      | none => none
      | some (b, l2) => if startsW [125] l2 = true then (if b < a then none else some ((a, b), l2.drop 1)) else none
    else none
def lazyX (x : RX) (a b : Int) (l : List Int) : RX × List Int := (.mk 5 [] a b (startsW [63] l) [x], if startsW [63] l = true then l.drop 1 else l)
def countedL (x : RX) (l : List Int) : Option (RX × List Int) :=
  if startsW [42] l = true then some (lazyX x 0 (-1) (l.drop 1)) else if startsW [43] l = true then some (lazyX x 1 (-1) (l.drop 1)) else if startsW [63] l = true then some (lazyX x 0 1 (l.drop 1))
  else if startsW [123] l = true then
    match countsL (l.drop 1) with
    | none => none
    | some (ab, l1) => some (lazyX x ab.1 ab.2 l1)
  else some (x, l)
def leaf (k : Int) : RX := .mk k [] 0 0 false []
def together (k : Int) (l : List RX) : RX := match l with
  | [] => leaf 1
  | [x] => x
  | l => .mk k [] 0 0 false l

/-- By what a group's inside is read as. -/
def groupP (pat : List Int → Option (RX × List Int)) (l : List Int) : Option (RX × List Int) :=
  match pat (if startsW [63, 58] l = true then l.drop 2 else l) with
  | none => none
  | some (x, l1) => if startsW [41] l1 = true then some (x, l1.drop 1) else none
def atomP (pat : List Int → Option (RX × List Int)) (l : List Int) : Option (RX × List Int) := match l with
  | [] => none
  | c :: r => if c = 40 then groupP pat r else if c = 91 then classL r else if c = 46 then some (setX inLines, r)
    else if c = 92 then (match escapeL r with
      | none => none
      | some (m, r') => some (setX m.ranges, r'))
    else if synB c = true then none else some (setX [(c, c)], r)
def termP (pat : List Int → Option (RX × List Int)) (l : List Int) : Option (RX × List Int) :=
  if startsW [94] l = true then some (leaf 6, l.drop 1) else if startsW [36] l = true then some (leaf 7, l.drop 1)
  else if startsW [92, 98] l = true then some (leaf 8, l.drop 2) else if startsW [92, 66] l = true then some (leaf 9, l.drop 2)
  else match atomP pat l with
    | none => none
    | some (x, l1) => countedL x l1
def rowG (term : List Int → Option (RX × List Int)) : Nat → List RX → List Int → Option (List RX × List Int)
  | 0, acc, l => some (acc, l)
  | n + 1, acc, l => match l with
    | [] => some (acc, [])
    | c :: r => if c = 124 ∨ c = 41 then some (acc, c :: r) else match term (c :: r) with
      | none => none
      | some (x, l') => rowG term n (acc ++ [x]) l'
def rowP (pat : List Int → Option (RX × List Int)) (l : List Int) : Option (RX × List Int) := match rowG (termP pat) l.length [] l with
  | none => none
  | some (xs, l') => some (together 3 xs, l')
def altG (row : List Int → Option (RX × List Int)) : Nat → List RX → List Int → Option (List RX × List Int)
  | 0, acc, l => some (acc, l)
  | n + 1, acc, l => if startsW [124] l = true then (match row (l.drop 1) with
      | none => none
      | some (x, l') => altG row n (acc ++ [x]) l') else some (acc, l)
def patP (pat : List Int → Option (RX × List Int)) (l : List Int) : Option (RX × List Int) := match rowP pat l with
  | none => none
  | some (x, l1) => match altG (rowP pat) l1.length [x] l1 with
    | none => none
    | some (xs, l2) => some (together 4 xs, l2)
def patL : Nat → List Int → Option (RX × List Int)
  | 0 => patP (fun _ => none)
  | d + 1 => patP (patL d)
/-- The whole pattern. -/
def parseL (l : List Int) : Option RX := match patL 200 l with
  | some (x, []) => some x
  | _ => none

theorem startsW_len : ∀ (s l : List Int), startsW s l = true → s.length ≤ l.length
  | [], _, _ => Nat.zero_le _
  | _ :: _, [], h => by simp [startsW] at h
  | a :: s, b :: l, h => by simp only [startsW, Bool.and_eq_true] at h; have := startsW_len s l h.2; simp only [List.length_cons]; omega
theorem hexG_len : ∀ (n : Nat) (acc : Int) (l : List Int) (x : Int × List Int), hexG n acc l = some x → x.2.length + n = l.length
  | 0, acc, l, x, h => by simp only [hexG, Option.some.injEq] at h; subst h; rfl
  | n + 1, acc, [], x, h => by simp [hexG] at h
  | n + 1, acc, c :: l, x, h => by
    simp only [hexG] at h
    split at h
    · simp at h
    · have := hexG_len n _ l x h; simp only [List.length_cons]; omega
theorem bracedG_len : ∀ (n : Nat) (p : Int) (l : List Int) (x : Int × List Int), bracedG n p l = some x → x.2.length ≤ l.length
  | 0, p, l, x, h => by simp [bracedG] at h
  | n + 1, p, l, x, h => by
    simp only [bracedG] at h
    split at h
    · split at h
      · simp only [Option.some.injEq] at h; subst h; simp
      · simp at h
    · split at h
      · simp at h
      · rename_i e
        split at h
        · simp at h
        · have h1 := bracedG_len n _ _ x h
          have h2 := hexG_len _ _ _ _ e
          simp only at h2; omega
theorem unicodeL_len (l : List Int) (x : Int × List Int) (h : unicodeL l = some x) : x.2.length ≤ l.length := by
  unfold unicodeL at h
  split at h
  · unfold bracedL at h
    split at h
    · simp at h
    · rename_i e
      have h1 := bracedG_len _ _ _ x h
      have h2 := hexG_len _ _ _ _ e
      simp only [List.length_drop] at h2; omega
  · split at h
    · simp at h
    · rename_i e
      have h2 := hexG_len _ _ _ _ e
      simp only at h2
      split at h
      · simp only [Option.some.injEq] at h; subst h; simp only; omega
      · split at h
        · split at h
          · simp at h
          · rename_i e3
            have h3 := hexG_len _ _ _ _ e3
            simp only [List.length_drop] at h3
            split at h
            · simp at h
            · simp only [Option.some.injEq] at h; subst h; simp only; omega
        · simp at h
theorem controlL_len (l : List Int) (x : Int × List Int) (h : controlL l = some x) : x.2.length ≤ l.length := by
  cases l with
  | nil => simp [controlL] at h
  | cons c r =>
    simp only [controlL] at h
    split at h
    · simp only [Option.some.injEq] at h; subst h; simp
    · simp at h
theorem escapedL_len (c : Int) (l : List Int) (x : Int × List Int) (h : escapedL c l = some x) : x.2.length ≤ l.length := by
  unfold escapedL at h
  repeat' (split at h)
  all_goals first
    | (simp only [Option.some.injEq] at h; subst h; exact Nat.le_refl _)
    | (simp at h; done)
    | (unfold noughtL at h; split at h <;> first | (simp at h; done) | (simp only [Option.some.injEq] at h; subst h; exact Nat.le_refl _))
    | exact controlL_len l x h
    | (have := hexG_len _ _ _ _ h; omega)
    | exact unicodeL_len l x h
theorem escapeL_len (l : List Int) (x : Mark × List Int) (h : escapeL l = some x) : x.2.length < l.length := by
  unfold escapeL at h
  split at h
  · simp at h
  · split at h
    · simp only [Option.some.injEq] at h; subst h; simp
    · split at h
      · simp at h
      · rename_i e
        have := escapedL_len _ _ _ e
        simp only [Option.some.injEq] at h; subst h; simp only [List.length_cons] at *; omega
theorem markL_len (l : List Int) (x : Mark × List Int) (h : markL l = some x) : x.2.length < l.length := by
  unfold markL at h
  split at h
  · rename_i e; have := startsW_len _ _ e; simp only [Option.some.injEq] at h; subst h; simp only [List.length_drop, List.length_cons, List.length_nil] at *; omega
  split at h
  · rename_i e; have := startsW_len _ _ e; simp only [Option.some.injEq] at h; subst h; simp only [List.length_drop, List.length_cons, List.length_nil] at *; omega
  split at h
  · have := escapeL_len _ _ h; simp only [List.length_drop] at this; omega
  split at h
  · simp at h
  · simp only [Option.some.injEq] at h; subst h; simp
theorem itemL_len (l : List Int) (x : List (Int × Int) × List Int) (h : itemL l = some x) : x.2.length < l.length := by
  unfold itemL at h
  split at h
  · simp at h
  · rename_i e
    have h1 := markL_len _ _ e
    split at h
    · simp only [Option.some.injEq] at h; subst h; exact h1
    · split at h
      · simp at h
      · rename_i e2
        have h2 := markL_len _ _ e2
        split at h
        · simp at h
        · simp only [Option.some.injEq] at h; subst h; simp only [List.length_drop] at *; omega
theorem itemsG_len : ∀ (n : Nat) (acc : List (Int × Int)) (l : List Int) (x : List (Int × Int) × List Int), itemsG n acc l = some x → x.2.length ≤ l.length
  | 0, _, _, _, h => by simp [itemsG] at h
  | n + 1, acc, l, x, h => by
    unfold itemsG at h
    split at h
    · simp only [Option.some.injEq] at h; subst h; simp
    · split at h
      · simp at h
      · rename_i e
        have h1 := itemL_len _ _ e
        have h2 := itemsG_len n _ _ x h
        simp only at h1; omega
theorem classL_len (l : List Int) (x : RX × List Int) (h : classL l = some x) : x.2.length ≤ l.length := by
  unfold classL at h
  split at h
  · simp at h
  · rename_i e
    have h1 := itemsG_len _ _ _ _ e
    simp only [Option.some.injEq] at h; subst h
    simp only at h1
    split at h1
    · simp only [List.length_drop] at h1; simp only; omega
    · exact h1
theorem countG_len : ∀ (l : List Int) (n : Int) (x : Int × List Int), countG n l = some x → x.2.length ≤ l.length
  | [], n, x, h => by simp only [countG, Option.some.injEq] at h; subst h; exact Nat.le_refl _
  | c :: l, n, x, h => by
    simp only [countG] at h
    split at h
    · split at h
      · simp at h
      · have := countG_len l _ x h; simp only [List.length_cons]; omega
    · simp only [Option.some.injEq] at h; subst h; exact Nat.le_refl _
theorem countL_len (l : List Int) (x : Int × List Int) (h : countL l = some x) : x.2.length ≤ l.length := by
  unfold countL at h
  split at h
  · simp at h
  · split at h
    · have := countG_len _ _ _ h; simp only [List.length_cons]; omega
    · simp at h
theorem countsL_len (l : List Int) (x : (Int × Int) × List Int) (h : countsL l = some x) : x.2.length ≤ l.length := by
  unfold countsL at h
  split at h
  · simp at h
  · rename_i e
    have h1 := countL_len _ _ e
    simp only at h1
    split at h
    · simp only [Option.some.injEq] at h; subst h; simp only [List.length_drop]; omega
    split at h
    · simp only [Option.some.injEq] at h; subst h; simp only [List.length_drop]; omega
    split at h
    · split at h
      · simp at h
      · rename_i e2
        have h2 := countL_len _ _ e2
        simp only [List.length_drop] at h2
        split at h
        · split at h
          · simp at h
          · simp only [Option.some.injEq] at h; subst h; simp only [List.length_drop]; omega
        · simp at h
    · simp at h
theorem lazyX_len (x : RX) (a b : Int) (l : List Int) : (lazyX x a b l).2.length ≤ l.length := by
  unfold lazyX; simp only; split <;> simp
theorem countedL_len (x : RX) (l : List Int) (y : RX × List Int) (h : countedL x l = some y) : y.2.length ≤ l.length := by
  unfold countedL at h
  repeat' (split at h)
  all_goals first
    | (simp at h; done)
    | (rename_i e
       have h1 := countsL_len _ _ e
       simp only [Option.some.injEq] at h; subst h
       refine Nat.le_trans (lazyX_len _ _ _ _) ?_
       simp only [List.length_drop] at h1; omega)
    | (simp only [Option.some.injEq] at h; subst h; refine Nat.le_trans (lazyX_len _ _ _ _) ?_; simp)
    | (simp only [Option.some.injEq] at h; subst h; exact Nat.le_refl _)

def Shr (pat : List Int → Option (RX × List Int)) : Prop := ∀ l x, pat l = some x → x.2.length ≤ l.length
theorem groupP_len {pat : List Int → Option (RX × List Int)} (hp : Shr pat) (l : List Int) (x : RX × List Int) (h : groupP pat l = some x) : x.2.length ≤ l.length := by
  unfold groupP at h
  split at h
  · simp at h
  · rename_i e
    have h1 := hp _ _ e
    simp only at h1
    split at h
    · simp only [Option.some.injEq] at h; subst h
      split at h1 <;> simp only [List.length_drop] at * <;> omega
    · simp at h
theorem atomP_len {pat : List Int → Option (RX × List Int)} (hp : Shr pat) (l : List Int) (x : RX × List Int) (h : atomP pat l = some x) : x.2.length < l.length := by
  unfold atomP at h
  split at h
  · simp at h
  · simp only [List.length_cons]
    split at h
    · have := groupP_len hp _ _ h; omega
    split at h
    · have := classL_len _ _ h; omega
    split at h
    · simp only [Option.some.injEq] at h; subst h; simp
    split at h
    · split at h
      · simp at h
      · rename_i e
        have := escapeL_len _ _ e
        simp only [Option.some.injEq] at h; subst h; simp only at *; omega
    split at h
    · simp at h
    · simp only [Option.some.injEq] at h; subst h; simp
theorem termP_len {pat : List Int → Option (RX × List Int)} (hp : Shr pat) (l : List Int) (x : RX × List Int) (h : termP pat l = some x) : x.2.length < l.length := by
  unfold termP at h
  split at h
  · rename_i e; have := startsW_len _ _ e; simp only [Option.some.injEq] at h; subst h; simp only [List.length_drop, List.length_cons, List.length_nil] at *; omega
  split at h
  · rename_i e; have := startsW_len _ _ e; simp only [Option.some.injEq] at h; subst h; simp only [List.length_drop, List.length_cons, List.length_nil] at *; omega
  split at h
  · rename_i e; have := startsW_len _ _ e; simp only [Option.some.injEq] at h; subst h; simp only [List.length_drop, List.length_cons, List.length_nil] at *; omega
  split at h
  · rename_i e; have := startsW_len _ _ e; simp only [Option.some.injEq] at h; subst h; simp only [List.length_drop, List.length_cons, List.length_nil] at *; omega
  split at h
  · simp at h
  · rename_i e
    have h1 := atomP_len hp _ _ e
    have h2 := countedL_len _ _ _ h
    simp only at h1; omega
theorem rowG_len {term : List Int → Option (RX × List Int)} (ht : ∀ l x, term l = some x → x.2.length < l.length) : ∀ (n : Nat) (acc : List RX) (l : List Int) (x : List RX × List Int), rowG term n acc l = some x → x.2.length ≤ l.length
  | 0, acc, l, x, h => by simp only [rowG, Option.some.injEq] at h; subst h; exact Nat.le_refl _
  | n + 1, acc, l, x, h => by
    unfold rowG at h
    split at h
    · simp only [Option.some.injEq] at h; subst h; exact Nat.le_refl _
    · split at h
      · simp only [Option.some.injEq] at h; subst h; exact Nat.le_refl _
      · split at h
        · simp at h
        · rename_i e
          have h1 := ht _ _ e
          have h2 := rowG_len ht n _ _ x h
          simp only at h1; omega
theorem rowP_len {pat : List Int → Option (RX × List Int)} (hp : Shr pat) (l : List Int) (x : RX × List Int) (h : rowP pat l = some x) : x.2.length ≤ l.length := by
  unfold rowP at h
  split at h
  · simp at h
  · rename_i e
    have h1 := rowG_len (fun l x => termP_len hp l x) _ _ _ _ e
    simp only [Option.some.injEq] at h; subst h; exact h1
theorem altG_len {row : List Int → Option (RX × List Int)} (hr : ∀ l x, row l = some x → x.2.length ≤ l.length) : ∀ (n : Nat) (acc : List RX) (l : List Int) (x : List RX × List Int), altG row n acc l = some x → x.2.length ≤ l.length
  | 0, acc, l, x, h => by simp only [altG, Option.some.injEq] at h; subst h; exact Nat.le_refl _
  | n + 1, acc, l, x, h => by
    unfold altG at h
    split at h
    · split at h
      · simp at h
      · rename_i e
        have h1 := hr _ _ e
        have h2 := altG_len hr n _ _ x h
        simp only [List.length_drop] at h1; omega
    · simp only [Option.some.injEq] at h; subst h; exact Nat.le_refl _
theorem patP_len {pat : List Int → Option (RX × List Int)} (hp : Shr pat) : Shr (patP pat) := by
  intro l x h
  unfold patP at h
  split at h
  · simp at h
  · rename_i e
    have h1 := rowP_len hp _ _ e
    split at h
    · simp at h
    · rename_i e2
      have h2 := altG_len (fun l x => rowP_len hp l x) _ _ _ _ e2
      simp only [Option.some.injEq] at h; subst h
      simp only at *; omega
theorem patL_len : ∀ d, Shr (patL d)
  | 0 => patP_len (fun l x h => by simp at h)
  | d + 1 => patP_len (patL_len d)
end Go.Proofs.YtppilokmgdpnnaaGreatDoor
