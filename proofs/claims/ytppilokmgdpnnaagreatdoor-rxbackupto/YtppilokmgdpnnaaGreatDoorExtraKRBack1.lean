/-
  What a text is read as may be, and no row of it is long. Conditions: at most 4096 code points.
  How many levels a tree has, by the document's answer. Conditions: at most 1000 levels.
-/
import Derived.Test.YtppilokmgdpnnaaGreatDoorJoined34
import Derived.Test.YtppilokmgdpnnaaGreatDoorJoined31
import Derived.Test.YtppilokmgdpnnaaGreatDoorJoined39
import Derived.Test.YtppilokmgdpnnaaGreatDoorJoined17
import Derived.Test.YtppilokmgdpnnaaGreatDoorJoined25
namespace Go.Proofs.YtppilokmgdpnnaaGreatDoor

/-- A tree that may be at so many levels, none of whose rows is long. -/
def GoodX (m : Nat) (x : RX) : Prop := rightB m x = true ∧ BdX 100000 x
theorem GoodX.mono {m n : Nat} {x : RX} (h : GoodX m x) (hn : m ≤ n) : GoodX n x := ⟨right_lv x m n h.1 (Nat.le_trans (lv_right x m h.1) hn), h.2⟩
theorem right_mk (m : Nat) (k : Int) (r : List (Int × Int)) (lo hi : Int) (z : Bool) (s : List RX) (ho : ownB k r lo hi z s.length = true) (hs : ∀ x ∈ s, rightB m x = true) : rightB (m + 1) (.mk k r lo hi z s) = true := by
  have e : rightB (m + 1) (.mk k r lo hi z s) = (headB k r lo hi z && kindB k lo hi s.length && s.all (rightB m)) := rfl
  rw [e, ← own_right, ho, Bool.true_and, List.all_eq_true]
  exact hs
theorem good_set (l : List (Int × Int)) (h : l.length ≤ 100000) : GoodX 1 (setX l) := by
  refine ⟨right_mk 0 2 _ 0 0 false [] ?_ (fun x hx => by simp at hx), BdX.mk (Nat.le_trans (merge_len l) h) (by simp) (fun c hc => by simp at hc)⟩
  unfold ownB
  rw [if_neg (by decide), if_pos rfl, merge_merge]
  simp [noCnt]
theorem good_leaf (k : Int) (hk : k = 1 ∨ k = 6 ∨ k = 7 ∨ k = 8 ∨ k = 9) : GoodX 1 (leaf k) := by
  refine ⟨right_mk 0 k [] 0 0 false [] ?_ (fun x hx => by simp at hx), BdX.mk (by simp) (by simp) (fun c hc => by simp at hc)⟩
  unfold ownB
  rw [if_pos hk]
  simp [noCnt]
theorem items_len : ∀ (n : Nat) (acc : List (Int × Int)) (l : List Int) (y : List (Int × Int) × List Int), itemsG n acc l = some y → y.1.length ≤ acc.length + 16 * l.length
  | 0, acc, l, y, h => by simp [itemsG] at h
  | n + 1, acc, l, y, h => by
    rw [itemsG] at h
    split at h
    · simp only [Option.some.injEq] at h
      subst h
      simp only
      omega
    · cases e : itemL l with
      | none => rw [e] at h; simp at h
      | some x =>
        obtain ⟨r, l'⟩ := x
        rw [e] at h
        simp only at h
        have h1 := items_len n _ l' y h
        have h2 := (itemL_rl e).2
        have h3 := itemL_len l _ e
        simp only at h2 h3
        rw [List.length_append] at h1
        omega
theorem class_good (l : List Int) (x : RX) (r : List Int) (h : classL l = some (x, r)) (hl : l.length ≤ 4096) : GoodX 1 x := by
  unfold classL at h
  cases e : itemsG (l.length + 1) [] (if startsW [94] l = true then l.drop 1 else l) with
  | none => rw [e] at h; simp at h
  | some y =>
    obtain ⟨q, l'⟩ := y
    rw [e] at h
    simp only [Option.some.injEq, Prod.mk.injEq] at h
    obtain ⟨rfl, _⟩ := h
    have h1 := items_len _ _ _ _ e
    have h2 : (if startsW [94] l = true then l.drop 1 else l).length ≤ l.length := by split <;> simp
    simp only [List.length_nil, Nat.zero_add] at h1
    refine good_set _ ?_
    split
    · have := turn_len q; omega
    · omega
theorem counts_ge (l : List Int) (y : (Int × Int) × List Int) (h : countsL l = some y) : (0 ≤ y.1.1 ∧ y.1.1 ≤ 1000) ∧ (y.1.2 = -1 ∨ (y.1.1 ≤ y.1.2 ∧ y.1.2 ≤ 1000)) := by
  obtain ⟨h1, h2, h3⟩ := countsL_bd l y h
  refine ⟨h1, ?_⟩
  unfold countsL at h
  cases e : countL l with
  | none => rw [e] at h; simp at h
  | some q =>
    obtain ⟨a, l1⟩ := q
    rw [e] at h
    simp only at h
    split at h
    · simp only [Option.some.injEq] at h; subst h; simp only at h1 h3 ⊢; omega
    · split at h
      · simp only [Option.some.injEq] at h; subst h; exact Or.inl rfl
      · split at h
        · cases e2 : countL (l1.drop 1) with
          | none => rw [e2] at h; simp at h
          | some q2 =>
            obtain ⟨b, l2⟩ := q2
            rw [e2] at h
            simp only at h
            split at h
            · split at h
              · simp at h
              · simp only [Option.some.injEq] at h; subst h; simp only at h1 h3 ⊢; omega
            · simp at h
        · simp at h
theorem lazy_good {m : Nat} {x : RX} (h : GoodX m x) (a b : Int) (ha : 0 ≤ a ∧ a ≤ 1000) (hb : b = -1 ∨ (a ≤ b ∧ b ≤ 1000)) (l : List Int) : GoodX (m + 1) (lazyX x a b l).1 := by
  have hy1 : ∀ y ∈ [x], rightB m y = true := fun y hy => by
    obtain rfl : y = x := by simpa using hy
    exact h.1
  have hy2 : ∀ y ∈ [x], BdX 100000 y := fun y hy => by
    obtain rfl : y = x := by simpa using hy
    exact h.2
  refine ⟨right_mk m 5 [] a b _ [x] ?_ hy1, BdX.mk (by simp) (by simp) hy2⟩
  unfold ownB hasCnt
  rw [if_neg (by decide), if_neg (by decide), if_neg (by decide), if_pos rfl]
  simp
  omega
theorem counted_good {m : Nat} {x : RX} (h : GoodX m x) (l : List Int) (y : RX × List Int) (hy : countedL x l = some y) : GoodX (m + 1) y.1 := by
  unfold countedL at hy
  split at hy
  · simp only [Option.some.injEq] at hy; subst hy; exact lazy_good h 0 (-1) (by omega) (by omega) _
  · split at hy
    · simp only [Option.some.injEq] at hy; subst hy; exact lazy_good h 1 (-1) (by omega) (by omega) _
    · split at hy
      · simp only [Option.some.injEq] at hy; subst hy; exact lazy_good h 0 1 (by omega) (by omega) _
      · split at hy
        · cases e : countsL (l.drop 1) with
          | none => rw [e] at hy; simp at hy
          | some q =>
            rw [e] at hy
            simp only [Option.some.injEq] at hy
            subst hy
            obtain ⟨h1, h2⟩ := counts_ge _ _ e
            exact lazy_good h _ _ h1 h2 _
        · simp only [Option.some.injEq] at hy; subst hy; exact h.mono (by omega)
/-- What a reader of groups answers is good. -/
def PatG (m : Nat) (pat : List Int → Option (RX × List Int)) : Prop := ∀ l x r, l.length ≤ 4096 → pat l = some (x, r) → GoodX m x ∧ r.length ≤ l.length
theorem atom_good {m : Nat} {pat : List Int → Option (RX × List Int)} (hm : 1 ≤ m) (hp : PatG m pat) (l : List Int) (x : RX) (r : List Int) (hl : l.length ≤ 4096) (h : atomP pat l = some (x, r)) : GoodX m x := by
  cases l with
  | nil => simp [atomP] at h
  | cons c l =>
    have hl' : l.length ≤ 4096 := by simp at hl; omega
    simp only [atomP] at h
    split at h
    · unfold groupP at h
      cases e : pat (if startsW [63, 58] l = true then l.drop 2 else l) with
      | none => rw [e] at h; simp at h
      | some y =>
        obtain ⟨x', l1⟩ := y
        rw [e] at h
        simp only at h
        split at h
        · simp only [Option.some.injEq, Prod.mk.injEq] at h
          obtain ⟨rfl, _⟩ := h
          exact (hp _ _ _ (by split <;> (try rw [List.length_drop]) <;> omega) e).1
        · simp at h
    · split at h
      · exact (class_good l x r h hl').mono hm
      · split at h
        · simp only [Option.some.injEq, Prod.mk.injEq] at h
          obtain ⟨rfl, _⟩ := h
          exact (good_set _ (by
            have := turn_len [(10, 10), (13, 13), (8232, 8233)]
            unfold inLines
            simp at this
            omega)).mono hm
        · split at h
          · cases e : escapeL l with
            | none => rw [e] at h; simp at h
            | some y =>
              obtain ⟨q, r'⟩ := y
              rw [e] at h
              simp only [Option.some.injEq, Prod.mk.injEq] at h
              obtain ⟨rfl, _⟩ := h
              have := (escapeL_rl e).2
              exact (good_set _ (by simp only at this; omega)).mono hm
          · split at h
            · simp at h
            · simp only [Option.some.injEq, Prod.mk.injEq] at h
              obtain ⟨rfl, _⟩ := h
              exact (good_set _ (by simp)).mono hm
theorem term_good {m : Nat} {pat : List Int → Option (RX × List Int)} (hm : 1 ≤ m) (hp : PatG m pat) (l : List Int) (x : RX) (r : List Int) (hl : l.length ≤ 4096) (h : termP pat l = some (x, r)) : GoodX (m + 1) x := by
  unfold termP at h
  split at h
  · simp only [Option.some.injEq, Prod.mk.injEq] at h; obtain ⟨rfl, _⟩ := h; exact (good_leaf 6 (by omega)).mono (by omega)
  · split at h
    · simp only [Option.some.injEq, Prod.mk.injEq] at h; obtain ⟨rfl, _⟩ := h; exact (good_leaf 7 (by omega)).mono (by omega)
    · split at h
      · simp only [Option.some.injEq, Prod.mk.injEq] at h; obtain ⟨rfl, _⟩ := h; exact (good_leaf 8 (by omega)).mono (by omega)
      · split at h
        · simp only [Option.some.injEq, Prod.mk.injEq] at h; obtain ⟨rfl, _⟩ := h; exact (good_leaf 9 (by omega)).mono (by omega)
        · cases e : atomP pat l with
          | none => rw [e] at h; simp at h
          | some y =>
            obtain ⟨x', l1⟩ := y
            rw [e] at h
            simp only at h
            exact counted_good (atom_good hm hp l x' l1 hl e) l1 _ h
theorem together_good {m : Nat} (hm : 1 ≤ m) (k : Int) (hk : k = 3 ∨ k = 4) (l : List RX) (hl : l.length ≤ 100000) (h : ∀ x ∈ l, GoodX m x) : GoodX (m + 1) (together k l) := by
  match l, hl, h with
  | [], _, _ => exact (good_leaf 1 (by omega)).mono (by omega)
  | [x], _, h => exact (h x (by simp)).mono (by omega)
  | a :: b :: l, hl, h =>
    refine ⟨right_mk m k [] 0 0 false (a :: b :: l) ?_ (fun x hx => (h x hx).1), BdX.mk (by simp) hl (fun c hc => (h c hc).2)⟩
    unfold ownB noCnt
    rw [if_neg (by omega), if_neg (by omega), if_pos hk]
    simp
theorem rowG_good {m : Nat} {pat : List Int → Option (RX × List Int)} (hm : 1 ≤ m) (hs : Shr pat) (hp : PatG m pat) : ∀ (n : Nat) (acc : List RX) (l : List Int) (y : List RX × List Int), l.length ≤ 4096 → (∀ x ∈ acc, GoodX (m + 1) x) → rowG (termP pat) n acc l = some y → (∀ x ∈ y.1, GoodX (m + 1) x) ∧ y.1.length + y.2.length ≤ acc.length + l.length
  | 0, acc, l, y, hl, ha, h => by
    simp only [rowG, Option.some.injEq] at h
    subst h
    exact ⟨ha, Nat.le_refl _⟩
  | n + 1, acc, l, y, hl, ha, h => by
    cases l with
    | nil => simp only [rowG, Option.some.injEq] at h; subst h; exact ⟨ha, Nat.le_refl _⟩
    | cons c r =>
      rw [rowG] at h
      split at h
      · simp only [Option.some.injEq] at h; subst h; exact ⟨ha, Nat.le_refl _⟩
      · cases e : termP pat (c :: r) with
        | none => rw [e] at h; simp at h
        | some z =>
          obtain ⟨x, l'⟩ := z
          rw [e] at h
          simp only at h
          have h1 := termP_len hs _ _ e
          simp only at h1
          have h2 := term_good hm hp _ _ _ hl e
          have := rowG_good hm hs hp n (acc ++ [x]) l' y (by omega) (fun q hq => by
            rcases List.mem_append.1 hq with hq | hq
            · exact ha q hq
            · obtain rfl : q = x := by simpa using hq
              exact h2) h
          refine ⟨this.1, ?_⟩
          have h3 := this.2
          rw [List.length_append] at h3
          simp only [List.length_cons, List.length_nil] at h3 h1 ⊢
          omega
theorem row_good {m : Nat} {pat : List Int → Option (RX × List Int)} (hm : 1 ≤ m) (hs : Shr pat) (hp : PatG m pat) (l : List Int) (x : RX) (r : List Int) (hl : l.length ≤ 4096) (h : rowP pat l = some (x, r)) : GoodX (m + 2) x ∧ r.length ≤ l.length := by
  have h0 := rowP_len hs l _ h
  unfold rowP at h
  cases e : rowG (termP pat) l.length [] l with
  | none => rw [e] at h; simp at h
  | some y =>
    obtain ⟨xs, l'⟩ := y
    rw [e] at h
    simp only [Option.some.injEq, Prod.mk.injEq] at h
    obtain ⟨rfl, rfl⟩ := h
    obtain ⟨h1, h2⟩ := rowG_good hm hs hp _ _ _ _ hl (fun x hx => by simp at hx) e
    simp only [List.length_nil, Nat.zero_add] at h2
    exact ⟨together_good (by omega) 3 (by omega) xs (by omega) h1, h0⟩
theorem altG_good {m : Nat} {pat : List Int → Option (RX × List Int)} (hm : 1 ≤ m) (hs : Shr pat) (hp : PatG m pat) : ∀ (n : Nat) (acc : List RX) (l : List Int) (y : List RX × List Int), l.length ≤ 4096 → (∀ x ∈ acc, GoodX (m + 2) x) → altG (rowP pat) n acc l = some y → (∀ x ∈ y.1, GoodX (m + 2) x) ∧ y.1.length + y.2.length ≤ acc.length + l.length
  | 0, acc, l, y, hl, ha, h => by
    simp only [altG, Option.some.injEq] at h
    subst h
    exact ⟨ha, Nat.le_refl _⟩
  | n + 1, acc, l, y, hl, ha, h => by
    rw [altG] at h
    split at h
    · rename_i hw
      have hw1 := startsW_len _ _ hw
      cases e : rowP pat (l.drop 1) with
      | none => rw [e] at h; simp at h
      | some z =>
        obtain ⟨x, l'⟩ := z
        rw [e] at h
        simp only at h
        obtain ⟨h2, h1⟩ := row_good hm hs hp _ _ _ (by rw [List.length_drop]; omega) e
        rw [List.length_drop] at h1
        have := altG_good hm hs hp n (acc ++ [x]) l' y (by omega) (fun q hq => by
          rcases List.mem_append.1 hq with hq | hq
          · exact ha q hq
          · obtain rfl : q = x := by simpa using hq
            exact h2) h
        refine ⟨this.1, ?_⟩
        have h3 := this.2
        rw [List.length_append] at h3
        simp only [List.length_cons, List.length_nil] at h3 hw1
        omega
    · simp only [Option.some.injEq] at h; subst h; exact ⟨ha, Nat.le_refl _⟩
theorem pat_good {m : Nat} {pat : List Int → Option (RX × List Int)} (hm : 1 ≤ m) (hs : Shr pat) (hp : PatG m pat) : PatG (m + 3) (patP pat) := by
  intro l x r hl h
  have h0 := patP_len hs l _ h
  unfold patP at h
  cases e : rowP pat l with
  | none => rw [e] at h; simp at h
  | some z =>
    obtain ⟨x1, l1⟩ := z
    rw [e] at h
    simp only at h
    obtain ⟨h1, h2⟩ := row_good hm hs hp _ _ _ hl e
    cases e2 : altG (rowP pat) l1.length [x1] l1 with
    | none => rw [e2] at h; simp at h
    | some z =>
      obtain ⟨xs, l2⟩ := z
      rw [e2] at h
      simp only [Option.some.injEq, Prod.mk.injEq] at h
      obtain ⟨rfl, rfl⟩ := h
      obtain ⟨h3, h4⟩ := altG_good hm hs hp _ _ _ _ (by omega) (fun q hq => by
        obtain rfl : q = x1 := by simpa using hq
        exact h1) e2
      simp only [List.length_cons, List.length_nil] at h4
      exact ⟨together_good (by omega) 4 (by omega) xs (by omega) h3, h0⟩
theorem patL_good : ∀ d, PatG (3 * d + 4) (patL d)
  | 0 => pat_good (m := 1) (by omega) (fun l x h => by simp at h) (fun l x r _ h => by simp at h)
  | d + 1 => by
    have := pat_good (m := 3 * d + 4) (by omega) (patL_len d) (patL_good d)
    rw [show 3 * (d + 1) + 4 = 3 * d + 4 + 3 by omega]
    exact this
/-- What a text is read as may be. -/
theorem parse_good (l : List Int) (t : RX) (hl : l.length ≤ 4096) (h : parseL l = some t) : GoodX 1000 t := by
  unfold parseL at h
  cases e : patL 200 l with
  | none => rw [e] at h; simp at h
  | some z =>
    obtain ⟨x, r⟩ := z
    rw [e] at h
    have := (patL_good 200 l x r hl e).1
    cases r with
    | nil =>
      simp only [Option.some.injEq] at h
      subst h
      exact this.mono (by omega)
    | cons c r => simp at h
end Go.Proofs.YtppilokmgdpnnaaGreatDoor

namespace Go.Proofs.YtppilokmgdpnnaaGreatDoor
open Go.RowKit
attribute [local go_sem] setCell_drewN alloc_drewN

set_option maxRecDepth 100000 in
set_option maxHeartbeats 3200000 in
theorem levels_any : ∀ (t : RX) (f : Nat → Value) (w : World) (Y : Nat → Prop), XI w Y t f → lvX t ≤ 1000 →
    Calls Tryz.prog 10 #[xa f] w fun e w' => e = .returned (.int .i64 (lvX t : Int)) ∧ Below w.heap.size w w' := by
  intro t
  induction t using RX.ind with
  | h k r lo hi z s ih =>
    intro f w Y hv hlv
    rw [lvX] at hlv
    cases hv with
    | mk ao cap G f0 f1 f2 f3 f4 f5 hc hw hl hr =>
    obtain ⟨a1, c1, e1, _⟩ := f1.shape
    have exa : xa f = .agg #[.int .i64 k, .slice a1 r.length c1, .int .i64 lo, .int .i64 hi, .bool z, .slice ao s.length cap] := by unfold xa; rw [f0, e1, f2, f3, f4, f5]
    rw [exa]
    have hlI : (s.length : Int) ≤ 9223372036854775807 := by have := hc.1; have := hc.2; unfold maxLen at this; omega
    obtain ⟨P, hP⟩ : ∃ P : Ending → World → Prop, P = fun e w' => e = .returned (.int .i64 (lvX (.mk k r lo hi z s) : Int)) ∧ Below w.heap.size w w' := ⟨_, rfl⟩
    rw [← hP]
    have HP := hid_intro hP
    obtain ⟨W, hW⟩ : ∃ W, w.alloc (.cells #[.int .i64 k, .slice a1 r.length c1, .int .i64 lo, .int .i64 hi, .bool z, .slice ao s.length cap] 26) = W := ⟨_, rfl⟩
    have hbW : Below w.heap.size w W := hW ▸ vb_a (Below.refl _ _) _
    have kX : Bk W w.heap.size #[.int .i64 k, .slice a1 r.length c1, .int .i64 lo, .int .i64 hi, .bool z, .slice ao s.length cap] := hW ▸ Bk.new _ _ _
    have HL : Hid (∀ w', Below W.heap.size W w' → (s = [] ∨ ∃ b off, ao = some ⟨b, off, none⟩ ∧ ∀ i, i < s.length → ∀ j, j < 6 → w'.cell? ⟨b, off + i * 6 + j, none⟩ = some (G i j))) := hid_intro (fun w' hb => by
      rcases hl with hl | ⟨b, off, h1, _, h3⟩
      · exact .inl hl
      · exact .inr ⟨b, off, h1, fun i hi j hj => by rw [(vb_t hbW hb).cell (p := ⟨b, off + i * 6 + j, none⟩) (World.block_lt_of_cell? w _ (h3 i hi j hj))]; exact h3 i hi j hj⟩)
    have HI : Hid (∀ w' i (h : i < s.length), Below W.heap.size W w' → Calls Tryz.prog 10 #[.agg #[G i 0, G i 1, G i 2, G i 3, G i 4, G i 5]] w' fun e w2 => e = .returned (.int .i64 (lvX s[i] : Int)) ∧ Below w'.heap.size w' w2) := hid_intro (fun w' i h hb =>
      ih s[i] (List.getElem_mem h) (G i) w' Y ((hr i h).kept (vb_t hbW hb)) (by have := lvL_mem s s[i] (List.getElem_mem h); omega))
    have HX := hid_intro hbW
    have HW := hid_intro hW
    have HK := hid_intro kX
    have HLV := hid_intro hlv
    obtain ⟨z0, z1, z2, z3, z4, z5⟩ := kX.c6
    clear hP hl hr ih hbW kX hW exa f1 hlv hw
    go_enter Tryz.func10, Tryz.ntmps10
    go_wp2_with fail
    rw [HW.out]
    clear z0 z1 z2 z3 z4 z5
    go_loopg [3, 4] s.length (fun m s3 s4 wr => ∃ j : Nat, j ≤ s.length ∧ m = s.length - j ∧ s3 = .int .i64 (lvL (s.take j) : Int) ∧ s4 = .int .i64 (j : Int) ∧ Hid (Below W.heap.size W wr))
    case atStart => exact ⟨0, Nat.zero_le _, rfl, by simp [lvL], rfl, Below.refl _ _⟩
    case round =>
      obtain ⟨j, hj, rfl, rfl, rfl, HZ⟩ := hrel
      have a5 := (HK.out.bel HZ.out).c6.2.2.2.2.2
      by_cases hlt : j < s.length
      · have hJ : (j : Int) < (s.length : Int) := by omega
        obtain ⟨b, off, rfl, h3⟩ := (HL.out wr HZ.out).resolve_left (fun e => by rw [e] at hlt; exact absurd hlt (by simp))
        have g0 : wr.cell? ⟨b, off + j * 6, none⟩ = some (G j 0) := h3 j hlt 0 (by omega)
        have g1 := h3 j hlt 1 (by omega)
        have g2 := h3 j hlt 2 (by omega)
        have g3 := h3 j hlt 3 (by omega)
        have g4 := h3 j hlt 4 (by omega)
        have g5 := h3 j hlt 5 (by omega)
        have hc2 := HI.out wr j hlt HZ.out
        have HMX : Hid (max (lvL (s.take j) : Int) (lvX s[j] : Int) = (lvL (s.take (j + 1)) : Int)) := hid_intro (by rw [lvL_take s j hlt]; omega)
        generalize (lvX s[j] : Int) = v1 at *
        generalize (lvL (s.take j) : Int) = v0 at *
        clear HL HI h3
        go_wp2_with fail
        refine hc2.mono ?_; rintro e w3 ⟨rfl, hb3⟩
        have HB := hid_intro (vb_t HZ.out hb3)
        clear hb3 hc2
        go_wp2_with fail
        all_goals
          go_roundg (s.length - (j + 1))
          case measure => omega
          case rel => exact ⟨j + 1, by omega, rfl, by rw [← HMX.out] <;> (congr 1 <;> omega), by simp, HB⟩
      · have hJ : ¬ (j : Int) < (s.length : Int) := by omega
        have HE : Hid (s.take j = s) := hid_intro (List.take_of_length_le (by omega))
        rw [HE.out]
        have hlv := HLV.out
        have hI : (lvL s : Int) ≤ 1000 := by omega
        have hI0 : (0 : Int) ≤ (lvL s : Int) := by omega
        have HV : Hid ((lvX (.mk k r lo hi z s) : Int) = (lvL s : Int) + 1) := hid_intro (by rw [lvX]; rfl)
        clear hlv HL HI
        generalize (lvL s : Int) = v0 at *
        go_wp2_with fail
        rw [HP.out, HV.out]
        exact ⟨rfl, vb_t HX.out HZ.out⟩
end Go.Proofs.YtppilokmgdpnnaaGreatDoor
