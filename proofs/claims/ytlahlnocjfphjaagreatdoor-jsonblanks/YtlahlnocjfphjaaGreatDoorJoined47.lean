/-
  What wider limits change of what is read: nothing but what passes them. Conditions: none.
-/
import Derived.Test.YtlahlnocjfphjaaGreatDoorJoined28
namespace Go.Proofs.YtlahlnocjfphjaaGreatDoor
open Go.RowKit

/-- Limits of numbers that are as wide or wider. -/
def Wid (m m' : LM) : Prop := m.dig ≤ m'.dig ∧ m.exp ≤ m'.exp
def shp (h : HS) : Int × List ByteArray := (h.1, h.2.2)
/-- Two that read the same bytes within two limits. -/
structure SR (s s' : SS) : Prop where
  i : s'.i = s.i
  dp : s'.dp = s.dp
  hs : s'.hs.map shp = s.hs.map shp
  eq : s.ps = 0 → s'.hs = s.hs ∧ s'.ps = 0
theorem SR.refl (s : SS) : SR s s := ⟨rfl, rfl, rfl, fun h => ⟨rfl, h⟩⟩
theorem SR.len {s s' : SS} (h : SR s s') : s'.hs.length = s.hs.length := by
  have := congrArg List.length h.hs
  simpa using this
theorem getLastD_map {α β : Type} (f : α → β) (l : List α) (d : α) : f (l.getLastD d) = (l.map f).getLastD (f d) := by
  cases l with
  | nil => rfl
  | cons a l =>
    induction l generalizing a with
    | nil => rfl
    | cons b l ih => simpa [List.getLastD_cons] using ih b
theorem SR.last {s s' : SS} (h : SR s s') : shp (lastS s') = shp (lastS s) := by
  unfold lastS
  rw [getLastD_map shp, getLastD_map shp, h.hs]
theorem SR.last1 {s s' : SS} (h : SR s s') : (lastS s').1 = (lastS s).1 := by
  have := congrArg Prod.fst h.last
  exact this
theorem SR.last2 {s s' : SS} (h : SR s s') : (lastS s').2.2 = (lastS s).2.2 := by
  have := congrArg Prod.snd h.last
  exact this
theorem SR.open {s s' : SS} (h : SR s s') (k : Int) (j : Nat) : SR { openS k s with i := j } { openS k s' with i := j } := by
  refine ⟨rfl, ?_, ?_, fun h0 => ?_⟩
  · show max s'.dp (s'.hs.length + 1) = max s.dp (s.hs.length + 1)
    rw [h.dp, h.len]
  · show (s'.hs ++ [(k, [], [])]).map shp = (s.hs ++ [(k, [], [])]).map shp
    rw [List.map_append, List.map_append, h.hs]
  · obtain ⟨h1, h2⟩ := h.eq h0
    exact ⟨by show s'.hs ++ _ = s.hs ++ _; rw [h1], h2⟩
theorem SR.at {s s' : SS} (h : SR s s') (j : Nat) : SR { s with i := j } { s' with i := j } := ⟨rfl, h.dp, h.hs, h.eq⟩
theorem map_dropLast {α β : Type} (f : α → β) (l : List α) : (l.dropLast).map f = (l.map f).dropLast := by simp
theorem SR.key {s s' : SS} (h : SR s s') (k : ByteArray) (j : Nat) : SR { addK k s with i := j } { addK k s' with i := j } := by
  refine ⟨rfl, h.dp, ?_, fun h0 => ?_⟩
  · show (s'.hs.dropLast ++ [((lastS s').1, (lastS s').2.1, (lastS s').2.2 ++ [k])]).map shp = (s.hs.dropLast ++ [((lastS s).1, (lastS s).2.1, (lastS s).2.2 ++ [k])]).map shp
    rw [List.map_append, List.map_append, map_dropLast, map_dropLast, h.hs]
    simp only [List.map_cons, List.map_nil, shp, h.last1, h.last2]
  · obtain ⟨h1, h2⟩ := h.eq h0
    have e : lastS s' = lastS s := by unfold lastS; rw [h1]
    exact ⟨by show s'.hs.dropLast ++ _ = s.hs.dropLast ++ _; rw [h1, e], h2⟩
theorem SR.val {s s' : SS} (h : SR s s') {v v' : JV} (hv : s.ps = 0 → v' = v) (j : Nat) : SR { addV v s with i := j } { addV v' s' with i := j } := by
  refine ⟨rfl, h.dp, ?_, fun h0 => ?_⟩
  · show (s'.hs.dropLast ++ [((lastS s').1, (lastS s').2.1 ++ [v'], (lastS s').2.2)]).map shp = (s.hs.dropLast ++ [((lastS s).1, (lastS s).2.1 ++ [v], (lastS s).2.2)]).map shp
    rw [List.map_append, List.map_append, map_dropLast, map_dropLast, h.hs]
    simp only [List.map_cons, List.map_nil, shp, h.last1, h.last2]
  · obtain ⟨h1, h2⟩ := h.eq h0
    have e : lastS s' = lastS s := by unfold lastS; rw [h1]
    exact ⟨by show s'.hs.dropLast ++ _ = s.hs.dropLast ++ _; rw [h1, e, hv h0], h2⟩
theorem SR.close {s s' : SS} (h : SR s s') : SR (closeS s).2 (closeS s').2 ∧ ((closeS s).2.ps = 0 → (closeS s').1 = (closeS s).1) := by
  refine ⟨⟨h.i, h.dp, ?_, fun h0 => ?_⟩, fun h0 => ?_⟩
  · show s'.hs.dropLast.map shp = s.hs.dropLast.map shp
    rw [map_dropLast, map_dropLast, h.hs]
  · obtain ⟨h1, h2⟩ := h.eq h0
    exact ⟨by show s'.hs.dropLast = s.hs.dropLast; rw [h1], h2⟩
  · obtain ⟨h1, h2⟩ := h.eq h0
    have e : lastS s' = lastS s := by unfold lastS; rw [h1]
    unfold closeS
    simp only [e]
theorem lim_wide {m m' : LM} (hw : Wid m m') (s : List UInt8) (h : (limL m s).2 = 0) : limL m' s = limL m s := by
  unfold limL at h ⊢
  obtain ⟨h1, h2⟩ := hw
  split at h
  · simp at h
  · rename_i hd
    rw [if_neg hd, if_neg (by omega)]
    split at h
    · simp at h
    · rename_i hx
      rw [if_neg hx, if_neg (by omega)]
theorem simple_wide {m m' : LM} (hw : Wid m m') (t : Lx.Tok) (p p' : Nat) (hp : p = 0 → p' = 0) (h : (simpleS m t p).2 = 0) : simpleS m' t p' = simpleS m t p := by
  unfold simpleS at h ⊢
  by_cases h1 : t.kind = 1
  · simp only [h1, ↓reduceIte] at h ⊢
    rw [h, hp h]
  · by_cases h2 : t.kind = 2
    · by_cases h3 : p = 0
      · simp only [h2, h3, hp h3, ne_eq, not_true_eq_false, ↓reduceIte] at h ⊢
        have h : (limL m t.text).2 = 0 := by simpa using h
        rw [lim_wide hw t.text h]
      · exfalso
        simp [h2, h3] at h
    · simp only [h1, h2, ↓reduceIte] at h ⊢
      rw [h, hp h]
theorem simple_ps {m : LM} (t : Lx.Tok) (p : Nat) (h : (simpleS m t p).2 = 0) : p = 0 := by
  unfold simpleS at h
  by_cases h1 : t.kind = 1
  · simpa [h1] using h
  · by_cases h2 : t.kind = 2
    · by_cases h3 : p = 0
      · exact h3
      · exfalso
        simp [h2, h3] at h
    · simpa [h1, h2] using h
/-- Two answers of the two. -/
def ER (x y : Except Nat (JV × SS)) : Prop := match x, y with
  | .error a, .error b => b = a
  | .ok a, .ok b => SR a.2 b.2 ∧ (a.2.ps = 0 → b.1 = a.1)
  | _, _ => False
def ET (x y : Except Nat (Lx.Tok × SS)) : Prop := match x, y with
  | .error a, .error b => b = a
  | .ok a, .ok b => SR a.2 b.2 ∧ b.1 = a.1
  | _, _ => False
theorem valueOf_sr (l : List UInt8) (t : Lx.Tok) {s s' : SS} (h : SR s s') : ET (valueOfS l t s) (valueOfS l t s') := by
  unfold valueOfS
  rw [h.last2, h.i]
  split
  · rfl
  · cases takeS sgD l s.i with
    | error e => rfl
    | ok t1 =>
      simp only
      cases takeS fov l t1.to with
      | error e => rfl
      | ok t2 => exact ⟨h.key _ _, rfl⟩
theorem nextOf_sr (l : List UInt8) {s s' : SS} (h : SR s s') : ET (nextOfS l s) (nextOfS l s') := by
  unfold nextOfS
  rw [h.last1, h.i]
  split
  · cases takeS fos l s.i with
    | error e => rfl
    | ok t => exact valueOf_sr l t (h.at _)
  · cases takeS fov l s.i with
    | error e => rfl
    | ok t => exact ⟨h.at _, rfl⟩
theorem first_sr (l : List UInt8) {m m' : LM} (hw : Wid m m') : ∀ n t s s', SR s s' → ER (firstS l m n t s) (firstS l m' n t s')
  | 0, _, _, _, _ => rfl
  | n + 1, t, s, s', h => by
    unfold firstS
    rw [h.i]
    split
    · cases takeS fovC l s.i with
      | error e => rfl
      | ok t1 => exact first_sr l hw n _ _ _ (h.open _ _)
    · split
      · cases takeS fosC l s.i with
        | error e => rfl
        | ok t1 =>
          simp only
          split
          · exact first_sr l hw n _ _ _ (h.open _ _)
          · have hv := valueOf_sr l t1 (h.open 6 t1.to)
            cases h1 : valueOfS l t1 { openS 6 s with i := t1.to } with
            | error e =>
              cases h2 : valueOfS l t1 { openS 6 s' with i := t1.to } with
              | error e' => rw [h1, h2] at hv; exact hv
              | ok b => rw [h1, h2] at hv; exact hv.elim
            | ok a =>
              cases h2 : valueOfS l t1 { openS 6 s' with i := t1.to } with
              | error e' => rw [h1, h2] at hv; exact hv.elim
              | ok b =>
                rw [h1, h2] at hv
                obtain ⟨hv1, hv2⟩ := hv
                simp only
                rw [hv2]
                exact first_sr l hw n _ _ _ hv1
      · split
        · exact h.close
        · refine ⟨⟨rfl, h.dp, h.hs, fun h0 => ?_⟩, fun h0 => ?_⟩
          · have hp := simple_ps t s.ps h0
            obtain ⟨h1, h2⟩ := h.eq hp
            exact ⟨h1, by show (simpleS m' t s'.ps).2 = 0; rw [simple_wide hw t s.ps s'.ps (fun _ => h2) h0]; exact h0⟩
          · have hp := simple_ps t s.ps h0
            obtain ⟨h1, h2⟩ := h.eq hp
            show (simpleS m' t s'.ps).1 = _
            rw [simple_wide hw t s.ps s'.ps (fun _ => h2) h0]
theorem nil_sr {s s' : SS} (h : SR s s') : s'.hs = [] ↔ s.hs = [] := by
  have := h.len
  constructor
  · intro e; rw [e] at this; exact List.eq_nil_of_length_eq_zero this.symm
  · intro e; rw [e] at this; exact List.eq_nil_of_length_eq_zero this
theorem loop_sr (l : List UInt8) {m m' : LM} (hw : Wid m m') : ∀ n v v' s s', SR s s' → (s.ps = 0 → v' = v) → ER (loopS l m n v s) (loopS l m' n v' s')
  | 0, _, _, _, _, _, _ => rfl
  | n + 1, v, v', s, s', h, hv => by
    unfold loopS
    have hc : closing s' = closing s := by unfold closing; rw [h.last1]
    rw [h.i, hc]
    by_cases h0 : s.hs = []
    · rw [if_pos h0, if_pos ((nil_sr h).2 h0)]
      exact ⟨h, hv⟩
    · rw [if_neg h0, if_neg (fun e => h0 ((nil_sr h).1 e))]
      cases takeS (closing s) l s.i with
      | error e => rfl
      | ok t =>
        simp only
        split
        · have hn := nextOf_sr l (h.val hv t.to)
          cases h1 : nextOfS l { addV v s with i := t.to } with
          | error e =>
            cases h2 : nextOfS l { addV v' s' with i := t.to } with
            | error e' => rw [h1, h2] at hn; exact hn
            | ok b => rw [h1, h2] at hn; exact hn.elim
          | ok a =>
            cases h2 : nextOfS l { addV v' s' with i := t.to } with
            | error e' => rw [h1, h2] at hn; exact hn.elim
            | ok b =>
              rw [h1, h2] at hn
              obtain ⟨hn1, hn2⟩ := hn
              simp only
              rw [hn2]
              have hf := first_sr l hw (l.length + 1) a.1 a.2 b.2 hn1
              cases h3 : firstS l m (l.length + 1) a.1 a.2 with
              | error e =>
                cases h4 : firstS l m' (l.length + 1) a.1 b.2 with
                | error e' => rw [h3, h4] at hf; exact hf
                | ok d => rw [h3, h4] at hf; exact hf.elim
              | ok c =>
                cases h4 : firstS l m' (l.length + 1) a.1 b.2 with
                | error e' => rw [h3, h4] at hf; exact hf.elim
                | ok d =>
                  rw [h3, h4] at hf
                  exact loop_sr l hw n _ _ _ _ hf.1 hf.2
        · have hcl := (h.val hv t.to).close
          exact loop_sr l hw n _ _ _ _ hcl.1 hcl.2
theorem text_sr (l : List UInt8) {m m' : LM} (hw : Wid m m') : ER (textS l m) (textS l m') := by
  unfold textS
  cases takeS fov l 0 with
  | error e => rfl
  | ok t =>
    simp only
    have hf := first_sr l hw (l.length + 1) t _ _ (SR.refl ⟨t.to, [], 0, 0⟩)
    cases h3 : firstS l m (l.length + 1) t ⟨t.to, [], 0, 0⟩ with
    | error e =>
      cases h4 : firstS l m' (l.length + 1) t ⟨t.to, [], 0, 0⟩ with
      | error e' => rw [h3, h4] at hf; exact hf
      | ok d => rw [h3, h4] at hf; exact hf.elim
    | ok c =>
      cases h4 : firstS l m' (l.length + 1) t ⟨t.to, [], 0, 0⟩ with
      | error e' => rw [h3, h4] at hf; exact hf.elim
      | ok d =>
        rw [h3, h4] at hf
        simp only
        have hl := loop_sr l hw (l.length + 1) c.1 d.1 c.2 d.2 hf.1 hf.2
        cases h5 : loopS l m (l.length + 1) c.1 c.2 with
        | error e =>
          cases h6 : loopS l m' (l.length + 1) d.1 d.2 with
          | error e' => rw [h5, h6] at hl; exact hl
          | ok d => rw [h5, h6] at hl; exact hl.elim
        | ok a =>
          cases h6 : loopS l m' (l.length + 1) d.1 d.2 with
          | error e' => rw [h5, h6] at hl; exact hl.elim
          | ok b =>
            rw [h5, h6] at hl
            simp only
            rw [hl.1.i]
            split
            · rfl
            · exact hl
/-- The limit that is told is one of the four. -/
theorem lim_ps (m : LM) (s : List UInt8) : (limL m s).2 ≤ 4 := by
  unfold limL
  split
  · simp
  · split <;> simp
theorem simple_le (m : LM) (t : Lx.Tok) (p : Nat) (h : p ≤ 4) : (simpleS m t p).2 ≤ 4 := by
  unfold simpleS
  split
  · exact h
  · split
    · split
      · exact h
      · exact lim_ps m _
    · exact h
theorem valueOf_ps {l : List UInt8} {t : Lx.Tok} {s : SS} {x : Lx.Tok × SS} (h : valueOfS l t s = .ok x) : x.2.ps = s.ps := by
  unfold valueOfS at h
  split at h
  · cases h
  · split at h
    · cases h
    · split at h
      · cases h
      · injection h with h; rw [← h]; rfl
theorem nextOf_ps {l : List UInt8} {s : SS} {x : Lx.Tok × SS} (h : nextOfS l s = .ok x) : x.2.ps = s.ps := by
  unfold nextOfS at h
  split at h
  · split at h
    · cases h
    · have := valueOf_ps h
      exact this
  · split at h
    · cases h
    · injection h with h; rw [← h]
theorem first_ps {l : List UInt8} {m : LM} : ∀ n t s x, firstS l m n t s = .ok x → s.ps ≤ 4 → x.2.ps ≤ 4
  | 0, _, _, _, h, _ => by simp [firstS] at h
  | n + 1, t, s, x, h, h4 => by
    unfold firstS at h
    split at h
    · split at h
      · cases h
      · exact first_ps n _ _ _ h h4
    · split at h
      · split at h
        · cases h
        · split at h
          · exact first_ps n _ _ _ h h4
          · split at h
            · cases h
            · rename_i hv
              exact first_ps n _ _ _ h (by have := valueOf_ps hv; simp only at this; rw [this]; exact h4)
      · split at h
        · injection h with h; rw [← h]; exact h4
        · injection h with h; rw [← h]; exact simple_le m t s.ps h4
theorem loop_ps {l : List UInt8} {m : LM} : ∀ n v s x, loopS l m n v s = .ok x → s.ps ≤ 4 → x.2.ps ≤ 4
  | 0, _, _, _, h, _ => by simp [loopS] at h
  | n + 1, v, s, x, h, h4 => by
    unfold loopS at h
    split at h
    · injection h with h; rw [← h]; exact h4
    · split at h
      · cases h
      · split at h
        · split at h
          · cases h
          · rename_i hn
            split at h
            · cases h
            · rename_i hf
              exact loop_ps n _ _ _ h (first_ps _ _ _ _ hf (by have := nextOf_ps hn; simp only at this; rw [this]; exact h4))
        · exact loop_ps n _ _ _ h h4
theorem text_ps {l : List UInt8} {m : LM} {x : JV × SS} (h : textS l m = .ok x) : x.2.ps ≤ 4 := by
  unfold textS at h
  split at h
  · cases h
  · split at h
    · cases h
    · rename_i hf
      split at h
      · cases h
      · rename_i hl
        split at h
        · cases h
        · injection h with h
          rw [← h]
          exact loop_ps _ _ _ _ hl (first_ps _ _ _ _ hf (Nat.zero_le _))
/-- What wider limits say of what was read within narrower ones. -/
theorem judged_wide (l : List UInt8) {m m' : LM} (hw : Wid m m') (hd : m.dep ≤ m'.dep) :
    match judgedS l m with
    | .ok v => judgedS l m' = .ok v
    | .error (r, k) => (r = 3 ∧ judgedS l m' = .error (r, k)) ∨ (r = 4 ∧ 1 ≤ k ∧ k ≤ 4 ∧ ∀ j, judgedS l m' ≠ .error (3, j)) := by
  have ht := text_sr l hw
  unfold judgedS
  by_cases hl : 1048576 < l.length
  · rw [if_pos hl, if_pos hl]
    exact Or.inr ⟨rfl, by decide, by decide, fun j h => by simp at h⟩
  · rw [if_neg hl, if_neg hl]
    cases h1 : textS l m with
    | error e =>
      cases h2 : textS l m' with
      | error e' => rw [h1, h2] at ht; have ht : e' = e := ht; exact Or.inl ⟨rfl, by rw [ht]⟩
      | ok b => rw [h1, h2] at ht; exact ht.elim
    | ok a =>
      cases h2 : textS l m' with
      | error e' => rw [h1, h2] at ht; exact ht.elim
      | ok b =>
        rw [h1, h2] at ht
        obtain ⟨hr, hv⟩ := ht
        have hps := text_ps h1
        have hno : ∀ j, (if m'.dep < (b.2.dp : Int) then Except.error (4, 2) else if b.2.ps ≠ 0 then .error (4, (b.2.ps : Int)) else .ok b.1 : Except (Int × Int) JV) ≠ .error (3, j) := fun j h => by
          split at h
          · simp at h
          · split at h <;> simp at h
        simp only
        by_cases hdp : m.dep < (a.2.dp : Int)
        · rw [if_pos hdp]
          exact Or.inr ⟨rfl, by decide, by decide, hno⟩
        · rw [if_neg hdp]
          by_cases h0 : a.2.ps = 0
          · rw [if_neg (by simpa using h0)]
            obtain ⟨_, e2⟩ := hr.eq h0
            simp only
            rw [if_neg (by rw [hr.dp]; omega), if_neg (by simpa using e2), hv h0]
          · rw [if_pos h0]
            exact Or.inr ⟨rfl, by omega, by omega, hno⟩
end Go.Proofs.YtlahlnocjfphjaaGreatDoor
