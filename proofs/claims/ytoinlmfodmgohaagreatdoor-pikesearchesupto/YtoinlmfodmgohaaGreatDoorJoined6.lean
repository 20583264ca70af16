/-
  The states at a place: what the program follows is all that is reached. No condition.
  A block that stays while others are written. No condition.
  Rows of whole numbers, and a map of them, as they lie in memory. Conditions: there is room.
-/
import Derived.Test.YtoinlmfodmgohaaGreatDoorJoined5
import Derived.Deep.AppendLies
import Derived.Maps.OwnOps
import Derived.Maps.OwnSet
namespace Go.Proofs.YtoinlmfodmgohaaGreatDoor

theorem sub_len : ∀ (l m : List Int), l.Nodup → (∀ x ∈ l, x ∈ m) → l.length ≤ m.length
  | [], m, _, _ => Nat.zero_le _
  | x :: l, m, hn, hs => by
    rw [List.nodup_cons] at hn
    have hx : x ∈ m := hs x (by simp)
    have := sub_len l (m.erase x) hn.2 (fun y hy => by
      have hne : y ≠ x := fun e => hn.1 (e ▸ hy)
      exact (List.mem_erase_of_ne hne).2 (hs y (by simp [hy])))
    rw [List.length_erase_of_mem hx] at this
    have : 0 < m.length := List.length_pos_of_mem hx
    simp only [List.length_cons]
    omega
theorem pig (n : Nat) (l : List Int) (hn : l.Nodup) (h : ∀ x ∈ l, 0 ≤ x ∧ x < (n : Int)) : l.length ≤ n := by
  have := sub_len l ((List.range n).map Int.ofNat) hn (fun x hx => by
    have := h x hx
    rw [List.mem_map]
    exact ⟨x.toNat, by rw [List.mem_range]; omega, by show (x.toNat : Int) = x; omega⟩)
  simpa using this
/-- How many there are. -/
def Cnt (S : Int → Prop) (c : Nat) : Prop := ∃ H : List Int, H.Nodup ∧ (∀ x, x ∈ H ↔ S x) ∧ H.length = c
theorem Cnt.uniq {S : Int → Prop} {c d : Nat} (h : Cnt S c) (h' : Cnt S d) : c = d := by
  obtain ⟨H, h1, h2, h3⟩ := h
  obtain ⟨K, k1, k2, k3⟩ := h'
  have a := sub_len H K h1 (fun x hx => (k2 x).2 ((h2 x).1 hx))
  have b := sub_len K H k1 (fun x hx => (h2 x).2 ((k2 x).1 hx))
  omega
/-- A state by its number. -/
def sx (L : List ST) (x : Int) : ST := sa L x.toNat
def InL (L : List ST) (x : Int) : Prop := 0 ≤ x ∧ x < (L.length : Int)
/-- States that lead within the list. -/
def VS (L : List ST) : Prop := 0 < L.length ∧ ∀ s ∈ L, ((s.k = 1 ∨ s.k = 2 ∨ s.k = 3 ∨ s.k = 4 ∨ s.k = 5 ∨ s.k = 6) → InL L s.a) ∧ (s.k = 2 → InL L s.b)
theorem VS.at {L : List ST} (h : VS L) {x : Int} (hx : InL L x) : (((sx L x).k = 1 ∨ (sx L x).k = 2 ∨ (sx L x).k = 3 ∨ (sx L x).k = 4 ∨ (sx L x).k = 5 ∨ (sx L x).k = 6) → InL L (sx L x).a) ∧ ((sx L x).k = 2 → InL L (sx L x).b) :=
  h.2 _ (sa_mem (by unfold InL at hx; omega))
/-- What lets one through at a place. -/
def GG (g : Int → Bool) : Prop := g 2 = true ∧ ∀ k, g k = true → k = 2 ∨ k = 3 ∨ k = 4 ∨ k = 5 ∨ k = 6
inductive Rch (L : List ST) (g : Int → Bool) (F : Int → Prop) : Int → Prop
  | base {x : Int} (h : F x) : Rch L g F x
  | a {x : Int} (h : Rch L g F x) (hg : g (sx L x).k = true) : Rch L g F (sx L x).a
  | b {x : Int} (h : Rch L g F x) (hk : (sx L x).k = 2) : Rch L g F (sx L x).b
/-- What the program does from one state on. -/
def fol (L : List ST) (g : Int → Bool) : Nat → Int → List Int × List Int → List Int × List Int
  | 0, s, p => if s ∈ p.1 then p else (p.1, p.2 ++ [s])
  | d + 1, s, p => if s ∈ p.1 then p else if g (sx L s).k = true then (if (sx L s).k = 2 then fol L g d (sx L s).b (fol L g d (sx L s).a (p.1 ++ [s], p.2)) else fol L g d (sx L s).a (p.1 ++ [s], p.2)) else (p.1 ++ [s], p.2)
theorem fol_in {L : List ST} {g : Int → Bool} {d : Nat} {s : Int} {H W : List Int} (h : s ∈ H) : fol L g d s (H, W) = (H, W) := by
  cases d <;> (rw [fol]; exact if_pos h)
theorem fol_end {L : List ST} {g : Int → Bool} {s : Int} {H W : List Int} (h : s ∉ H) : fol L g 0 s (H, W) = (H, W ++ [s]) := by rw [fol]; exact if_neg h
theorem fol_stop {L : List ST} {g : Int → Bool} {d : Nat} {s : Int} {H W : List Int} (h : s ∉ H) (hg : g (sx L s).k = false) : fol L g (d + 1) s (H, W) = (H ++ [s], W) := by
  rw [fol, if_neg h, if_neg (by rw [hg]; exact Bool.false_ne_true)]
theorem fol_go {L : List ST} {g : Int → Bool} {d : Nat} {s : Int} {H W : List Int} (h : s ∉ H) (hg : g (sx L s).k = true) (hk : (sx L s).k ≠ 2) : fol L g (d + 1) s (H, W) = fol L g d (sx L s).a (H ++ [s], W) := by
  rw [fol, if_neg h, if_pos hg, if_neg hk]
theorem fol_fork {L : List ST} {g : Int → Bool} {d : Nat} {s : Int} {H W : List Int} (h : s ∉ H) (hg : g (sx L s).k = true) (hk : (sx L s).k = 2) : fol L g (d + 1) s (H, W) = fol L g d (sx L s).b (fol L g d (sx L s).a (H ++ [s], W)) := by
  rw [fol, if_neg h, if_pos hg, if_pos hk]
structure Grd (L : List ST) (g : Int → Bool) (F : Int → Prop) (H W : List Int) : Prop where
  nd : H.Nodup
  inH : ∀ x ∈ H, InL L x
  inW : ∀ x ∈ W, InL L x
  so : ∀ x, x ∈ H ∨ x ∈ W → Rch L g F x
theorem Grd.le {L : List ST} {g : Int → Bool} {F : Int → Prop} {H W : List Int} (h : Grd L g F H W) : H.length ≤ L.length := pig _ _ h.nd h.inH
def Cl (L : List ST) (g : Int → Bool) (x : Int) (H W : List Int) : Prop := (g (sx L x).k = true → (sx L x).a ∈ H ∨ (sx L x).a ∈ W) ∧ ((sx L x).k = 2 → (sx L x).b ∈ H ∨ (sx L x).b ∈ W)
theorem Cl.mono {L : List ST} {g : Int → Bool} {x : Int} {H W H' W' : List Int} (h : Cl L g x H W) (hs : ∀ y, y ∈ H ∨ y ∈ W → y ∈ H' ∨ y ∈ W') : Cl L g x H' W' := ⟨fun e => hs _ (h.1 e), fun e => hs _ (h.2 e)⟩
structure FolR (L : List ST) (g : Int → Bool) (F : Int → Prop) (d : Nat) (s : Int) (H W H' W' : List Int) : Prop where
  grd : Grd L g F H' W'
  ext : ∃ E G, H' = H ++ E ∧ W' = W ++ G ∧ G.length ≤ 2 * E.length + (if d = 0 then 1 else 0) ∧ ∀ x ∈ E, Cl L g x H' W'
  has : s ∈ H' ∨ s ∈ W'
theorem FolR.sub {L : List ST} {g : Int → Bool} {F : Int → Prop} {d : Nat} {s : Int} {H W H' W' : List Int} (h : FolR L g F d s H W H' W') : ∀ y, y ∈ H ∨ y ∈ W → y ∈ H' ∨ y ∈ W' := by
  obtain ⟨E, G, e1, e2, _⟩ := h.ext
  rintro y (hy | hy)
  · exact Or.inl (by rw [e1]; simp [hy])
  · exact Or.inr (by rw [e2]; simp [hy])
theorem Grd.push {L : List ST} {g : Int → Bool} {F : Int → Prop} {H W : List Int} (h : Grd L g F H W) {s : Int} (hs : s ∉ H) (hi : InL L s) (hr : Rch L g F s) : Grd L g F (H ++ [s]) W := by
  refine ⟨?_, ?_, h.inW, ?_⟩
  · rw [List.nodup_append]
    exact ⟨h.nd, by simp, fun a ha b hb e => by simp at hb; exact hs (hb ▸ e ▸ ha)⟩
  · intro x hx
    rcases List.mem_append.1 hx with hx | hx
    · exact h.inH x hx
    · simp at hx; exact hx ▸ hi
  · rintro x (hx | hx)
    · rcases List.mem_append.1 hx with hx | hx
      · exact h.so x (Or.inl hx)
      · simp at hx; exact hx ▸ hr
    · exact h.so x (Or.inr hx)
theorem fol_post {L : List ST} {g : Int → Bool} {F : Int → Prop} (hL : VS L) (hg : GG g) : ∀ (d : Nat) (s : Int) (H W : List Int), InL L s → Rch L g F s → Grd L g F H W →
    FolR L g F d s H W (fol L g d s (H, W)).1 (fol L g d s (H, W)).2
  | 0, s, H, W, hi, hr, hG => by
    by_cases h : s ∈ H
    · rw [fol_in h]
      exact ⟨hG, ⟨[], [], by simp, by simp, by simp, by simp⟩, Or.inl h⟩
    · rw [fol_end h]
      refine ⟨⟨hG.nd, hG.inH, ?_, ?_⟩, ⟨[], [s], by simp, rfl, by simp, by simp⟩, Or.inr (by simp)⟩
      · intro x hx
        rcases List.mem_append.1 hx with hx | hx
        · exact hG.inW x hx
        · simp at hx; exact hx ▸ hi
      · rintro x (hx | hx)
        · exact hG.so x (Or.inl hx)
        · rcases List.mem_append.1 hx with hx | hx
          · exact hG.so x (Or.inr hx)
          · simp at hx; exact hx ▸ hr
  | d + 1, s, H, W, hi, hr, hG => by
    by_cases h : s ∈ H
    · rw [fol_in h]
      exact ⟨hG, ⟨[], [], by simp, by simp, by simp, by simp⟩, Or.inl h⟩
    have hp := hG.push h hi hr
    have hv := hL.at hi
    cases hgk : g (sx L s).k
    · rw [fol_stop h hgk]
      refine ⟨hp, ⟨[s], [], rfl, by simp, by simp, ?_⟩, Or.inl (by simp)⟩
      intro x hx
      simp at hx
      subst hx
      refine ⟨fun e => by rw [hgk] at e; exact absurd e Bool.false_ne_true, fun e => ?_⟩
      rw [e, hg.1] at hgk
      exact absurd hgk (by simp)
    have hk := hg.2 _ hgk
    have ha : InL L (sx L s).a := hv.1 (by omega)
    have h1 := fol_post hL hg d (sx L s).a (H ++ [s]) W ha (.a hr hgk) hp
    by_cases h2 : (sx L s).k = 2
    · rw [fol_fork h hgk h2]
      generalize hq : fol L g d (sx L s).a (H ++ [s], W) = q at h1 ⊢
      obtain ⟨H1, W1⟩ := q
      have h3 := fol_post hL hg d (sx L s).b H1 W1 (hv.2 h2) (.b hr h2) h1.grd
      generalize fol L g d (sx L s).b (H1, W1) = q2 at h3 ⊢
      obtain ⟨H2, W2⟩ := q2
      obtain ⟨E1, G1, e1, e2, e3, e4⟩ := h1.ext
      obtain ⟨E2, G2, f1, f2, f3, f4⟩ := h3.ext
      dsimp only at e1 e2 e4 f1 f2 f4 h1 h3 ⊢
      refine ⟨h3.grd, ⟨[s] ++ E1 ++ E2, G1 ++ G2, by rw [f1, e1]; simp, by rw [f2, e2]; simp, ?_, ?_⟩, Or.inl (by rw [f1, e1]; simp)⟩
      · simp only [List.length_append, List.length_cons, List.length_nil]
        have : (if d = 0 then 1 else 0) ≤ 1 := by split <;> omega
        omega
      · intro x hx
        simp only [List.mem_append, List.mem_cons, List.not_mem_nil, or_false] at hx
        rcases hx with (hx | hx) | hx
        · subst hx
          exact ⟨fun _ => h3.sub _ h1.has, fun _ => h3.has⟩
        · exact (e4 x hx).mono h3.sub
        · exact f4 x hx
    · rw [fol_go h hgk h2]
      obtain ⟨E1, G1, e1, e2, e3, e4⟩ := h1.ext
      refine ⟨h1.grd, ⟨[s] ++ E1, G1, by rw [e1]; simp, e2, ?_, ?_⟩, Or.inl (by rw [e1]; simp)⟩
      · simp only [List.length_append, List.length_cons, List.length_nil]
        have : (if d = 0 then 1 else 0) ≤ 1 := by split <;> omega
        omega
      · intro x hx
        simp only [List.mem_append, List.mem_cons, List.not_mem_nil, or_false] at hx
        rcases hx with hx | hx
        · subst hx
          exact ⟨fun _ => h1.has, fun e => absurd e h2⟩
        · exact e4 x hx
/-- What the loop keeps. -/
structure Lp (L : List ST) (g : Int → Bool) (F : Int → Prop) (H W : List Int) : Prop where
  grd : Grd L g F H W
  cl : ∀ x ∈ H, Cl L g x H W
  fr : ∀ x, F x → x ∈ H ∨ x ∈ W
theorem Lp.start {L : List ST} {g : Int → Bool} {W : List Int} (hi : ∀ x ∈ W, InL L x) : Lp L g (fun x => x ∈ W) [] W :=
  ⟨⟨List.nodup_nil, fun x hx => by simp at hx, hi, fun x hx => .base (by simpa using hx)⟩, fun x hx => by simp at hx, fun x hx => Or.inr hx⟩
theorem Lp.step {L : List ST} {g : Int → Bool} {F : Int → Prop} (hL : VS L) (hg : GG g) {H W : List Int} {s : Int} (h : Lp L g F H (W ++ [s])) (d : Nat) :
    Lp L g F (fol L g (d + 1) s (H, W)).1 (fol L g (d + 1) s (H, W)).2 ∧ 3 * (L.length - (fol L g (d + 1) s (H, W)).1.length) + (fol L g (d + 1) s (H, W)).2.length < 3 * (L.length - H.length) + (W ++ [s]).length := by
  have hi : InL L s := h.grd.inW s (by simp)
  have hr : Rch L g F s := h.grd.so s (Or.inr (by simp))
  have hG : Grd L g F H W := ⟨h.grd.nd, h.grd.inH, fun x hx => h.grd.inW x (by simp [hx]), fun x hx => h.grd.so x (hx.imp id (fun e => by simp [e]))⟩
  have hp := fol_post hL hg (d + 1) s H W hi hr hG
  generalize fol L g (d + 1) s (H, W) = q at hp ⊢
  obtain ⟨H', W'⟩ := q
  dsimp only at hp ⊢
  have hs : ∀ y, y ∈ H ∨ y ∈ W ++ [s] → y ∈ H' ∨ y ∈ W' := by
    rintro y (hy | hy)
    · exact hp.sub y (Or.inl hy)
    · rcases List.mem_append.1 hy with hy | hy
      · exact hp.sub y (Or.inr hy)
      · simp at hy; exact hy ▸ hp.has
  have hle := hp.grd.le
  obtain ⟨E, G, e1, e2, e3, e4⟩ := hp.ext
  refine ⟨⟨hp.grd, fun x hx => ?_, fun x hx => hs x (h.fr x hx)⟩, ?_⟩
  · rw [e1] at hx
    rcases List.mem_append.1 hx with hx | hx
    · exact (h.cl x hx).mono hs
    · exact e4 x hx
  · rw [if_neg (by omega)] at e3
    rw [e1, e2]
    rw [e1] at hle
    simp only [List.length_append, List.length_cons, List.length_nil] at hle ⊢
    omega
theorem Lp.done {L : List ST} {g : Int → Bool} {F : Int → Prop} {H : List Int} (h : Lp L g F H []) : ∀ x, x ∈ H ↔ Rch L g F x := by
  intro x
  refine ⟨fun hx => h.grd.so x (Or.inl hx), fun hx => ?_⟩
  induction hx with
  | base hx => exact (h.fr _ hx).elim id (fun e => by simp at e)
  | a _ hg ih => exact ((h.cl _ ih).1 hg).elim id (fun e => by simp at e)
  | b _ hk ih => exact ((h.cl _ ih).2 hk).elim id (fun e => by simp at e)
end Go.Proofs.YtoinlmfodmgohaaGreatDoor

namespace Go.Proofs.YtoinlmfodmgohaaGreatDoor
theorem Bk.but {w w' : World} {b : Nat} {cs : Array Value} {X : Nat → Prop} (h : Bk w b cs) (hb : But X w w') (hx : ¬ X b) : Bk w' b cs := by
  have hl := h.lt
  obtain ⟨T, h⟩ := h
  exact ⟨T, by rw [hb.block b hl hx]; exact h⟩
end Go.Proofs.YtoinlmfodmgohaaGreatDoor

namespace Go.Proofs.YtoinlmfodmgohaaGreatDoor
open Go.RowKit Go.Maps
attribute [local go_sem] setCell_drewN alloc_drewN

/-- One of a row of numbers. -/
def ia (t : List Int) (i : Nat) : Int := t.getD i 0
theorem ia_mem {t : List Int} {i : Nat} (h : i < t.length) : ia t i ∈ t := by
  unfold ia; rw [List.getD_eq_getElem?_getD, List.getElem?_eq_getElem h]; exact List.getElem_mem h
/-- A row of numbers in a world, outside of blocks that may be written yet. -/
def II (w : World) (X : Nat → Prop) (t : List Int) (v : Value) : Prop :=
  ∃ ao cap, v = .slice ao t.length cap ∧ t.length ≤ cap ∧ cap ≤ maxLen ∧ (∀ x ∈ t, I64 x) ∧
    (t = [] ∨ ∃ b off, ao = some ⟨b, off, none⟩ ∧ ¬ X b ∧ ∀ i, i < t.length → w.cell? ⟨b, off + i, none⟩ = some (.int .i64 (ia t i)))
theorem II.carry {w w' : World} {X X' : Nat → Prop} {t : List Int} {v : Value} (h : II w X t v) (hX : ∀ b, ¬ X b → b < w.heap.size → w'.heap[b]? = w.heap[b]? ∧ ¬ X' b) : II w' X' t v := by
  obtain ⟨ao, cap, e, h1, h2, h3, h4⟩ := h
  refine ⟨ao, cap, e, h1, h2, h3, ?_⟩
  rcases h4 with h4 | ⟨b, off, h5, h6, h7⟩
  · exact Or.inl h4
  · by_cases hk : t = []
    · exact Or.inl hk
    have h0 : 0 < t.length := List.length_pos_iff.2 hk
    have hb : b < w.heap.size := World.block_lt_of_cell? w _ (h7 0 h0)
    have hx := hX b h6 hb
    exact Or.inr ⟨b, off, h5, hx.2, fun i hi => (World.cell?_of_block (w := w) (w' := w') hx.1).trans (h7 i hi)⟩
theorem II.kept {w w' : World} {X : Nat → Prop} {t : List Int} {v : Value} (h : II w X t v) (hb : Below w.heap.size w w') : II w' X t v := h.carry fun b hx hlt => ⟨hb.block b hlt, hx⟩
theorem II.but {w w' : World} {X : Nat → Prop} {t : List Int} {v : Value} (h : II w X t v) (hb : But X w w') : II w' X t v := h.carry fun b hx hlt => ⟨hb.block b hlt hx, hx⟩
theorem SI.but {w w' : World} {X : Nat → Prop} {l : List ST} {v : Value} (h : SI w X l v) (hb : But X w w') : SI w' X l v := h.carry fun b hx hlt => ⟨hb.block b hlt hx, hx⟩
theorem Bk.gr {w w' : World} {b : Nat} {cs : Array Value} {o : Option Nat} (h : Bk w b cs) (g : w.grownBy w' o) (ho : o ≠ some b) : Bk w' b cs := by
  have hl := h.lt
  obtain ⟨T, h⟩ := h
  exact ⟨T, by rw [g.block b hl (fun e => ho e.symm)]; exact h⟩
theorem Bk.q1 {w : World} {b : Nat} {x0 : Value} (h : Bk w b #[x0]) : w.cell? ⟨b, 0, none⟩ = some x0 := h.cell 0

def ivs (l : List Int) : List Value := l.map fun x => .int .i64 x
theorem ivs_len (l : List Int) : (ivs l).length = l.length := by simp [ivs]
/-- A row of numbers that the call owns. -/
def OwnI (w : World) (B : Nat) (v : Value) (l : List Int) : Prop := w.ownsRow B 3 1 v l.length (ivs l) ∧ ∀ x ∈ l, I64 x
theorem OwnI.nil (w : World) (B : Nat) : OwnI w B (.slice none 0 0) [] := ⟨World.ownsRow_nil w B _ 1, fun r hr => by simp at hr⟩
theorem OwnI.ii {w : World} {B : Nat} {v : Value} {l : List Int} (h : OwnI w B v l) (X : Nat → Prop) (hX : ∀ b, v.ownBlock = some b → ¬ X b) : II w X l v := by
  obtain ⟨ho, hw⟩ := h
  have ho' := ho
  rcases ho.2 with ⟨rfl, hn⟩ | ⟨g, cap, cur, rfl, hb, hg, hc, hm, hs, ht⟩
  · have : l = [] := List.eq_nil_of_length_eq_zero hn
    subst this
    exact ⟨_, 0, rfl, Nat.le_refl _, by unfold maxLen; omega, hw, Or.inl rfl⟩
  · refine ⟨_, cap, rfl, hc, hm, hw, Or.inr ⟨g, 0, rfl, hX g rfl, fun i hi => ?_⟩⟩
    rw [Nat.zero_add, ho'.cellAt _ (by omega)]
    unfold ivs ia
    rw [List.getElem?_map, List.getElem?_eq_getElem hi, List.getD_eq_getElem?_getD, List.getElem?_eq_getElem hi]; rfl
theorem OwnI.blk {w w' : World} {B : Nat} {v : Value} {l : List Int} (h : OwnI w B v l) (hb : ∀ g, v.ownBlock = some g → w'.heap[g]? = w.heap[g]?) : OwnI w' B v l := by
  refine ⟨⟨h.1.1, ?_⟩, h.2⟩
  rcases h.1.2 with h' | ⟨g, c, cur, rfl, hb', hg, hrest⟩
  · exact Or.inl h'
  · exact Or.inr ⟨g, c, cur, rfl, hb', (hb g rfl).trans hg, hrest⟩
theorem OwnI.lt {w : World} {B : Nat} {v : Value} {l : List Int} (h : OwnI w B v l) {g : Nat} (hg : v.ownBlock = some g) : B ≤ g ∧ g < w.heap.size := h.1.lt g hg
theorem OwnI.bel {w w' : World} {B : Nat} {v : Value} {l : List Int} (h : OwnI w B v l) (hb : Below w.heap.size w w') : OwnI w' B v l := h.blk fun g hg => hb.block g (h.lt hg).2
theorem OwnI.gr {w w' : World} {B : Nat} {v : Value} {l : List Int} {o : Option Nat} (h : OwnI w B v l) (hb : w.grownBy w' o) (ho : ∀ g, v.ownBlock = some g → o ≠ some g) : OwnI w' B v l := h.blk fun g hg => hb.block g (h.lt hg).2 (fun e => ho g hg e.symm)
theorem OwnI.set {w : World} {B : Nat} {v : Value} {l : List Int} (h : OwnI w B v l) (a : Addr) (u : Value) (ha : a.block < B) : OwnI (w.setCell a u) B v l := h.blk fun g hg => Below.heap_setCell w a u g (fun e => by have := (h.lt hg).1; omega)
theorem OwnI.form {w : World} {B : Nat} {v : Value} {l : List Int} (h : OwnI w B v l) : ∃ ao cap, v = .slice ao l.length cap ∧ l.length ≤ cap ∧ cap ≤ maxLen ∧ (0 < l.length → ∃ g, ao = some ⟨g, 0, none⟩) ∧ (∀ g off u, ao = some ⟨g, off, u⟩ → off = 0 ∧ u = none) := by
  rcases h.1.2 with ⟨rfl, hn⟩ | ⟨g, cap, cur, rfl, hb, hg, hc, hm, hs, ht⟩
  · exact ⟨none, 0, by rw [hn], by omega, by unfold maxLen; omega, fun h => by omega, fun g off u e => by cases e⟩
  · exact ⟨_, cap, rfl, hc, hm, fun _ => ⟨g, rfl⟩, fun g' off u e => by cases e; exact ⟨rfl, rfl⟩⟩
/-- The first of a row. -/
theorem OwnI.take {w : World} {B : Nat} {ao : Option Addr} {n cap : Nat} {l : List Int} (h : OwnI w B (.slice ao n cap) l) (k : Nat) (hk : k ≤ l.length) : OwnI w B (.slice ao k cap) (l.take k) := by
  refine ⟨?_, fun x hx => h.2 x (List.mem_of_mem_take hx)⟩
  have hlen : (l.take k).length = k := by rw [List.length_take]; omega
  rw [hlen]
  refine ⟨by rw [ivs_len, hlen]; omega, ?_⟩
  rcases h.1.2 with ⟨e, hn⟩ | ⟨g, cap', cur, e, hb, hg, hc, hm, hs, ht⟩
  · injection e with e1 e2 e3
    subst e1 e2 e3
    obtain rfl : k = 0 := by omega
    exact Or.inl ⟨rfl, rfl⟩
  · injection e with e1 e2 e3
    subst e1 e2 e3
    refine Or.inr ⟨g, cap, cur, rfl, hb, hg, by omega, hm, hs, ?_⟩
    have : ivs (l.take k) = (ivs l).take k := by unfold ivs; rw [List.map_take]
    rw [this, ← ht, List.take_take]
    congr 1
    omega
theorem infoInt : (Tryz.prog.info? 3).map (fun i => (i.zero, i.size, i.bytes)) = some (some (.int .i64 0), 1, 8) := by kernel_rfl
/-- A number more in a row. -/
theorem wpList_append_i {w : World} {ops : Array Oper} {rest : List Oper} {o : Oper} {a : Act} {Q : Exit → Act → World → Prop} (hgd : o.guard = none) (s x : Operand)
    (ho : o.op = .call { callee := .builtin .append, args := #[s, x], argTypes := #[32, 32] }) (B : Nat) (v : Value) (l : List Int) (hs : a.eval s = v) (hown : OwnI w B v l) (hB : B ≤ w.heap.size) (hn : l.length ≤ 1099511627776) (y : Int) (hy : I64 y)
    (t : Nat) (ht : w.heap.size = t) (hx : a.eval x = .slice (some ⟨t, 0, none⟩) 1 1)
    (h : ∀ g cap w', OwnI w' B (.slice (some ⟨g, 0, none⟩) (l.length + 1) cap) (l ++ [y]) → (w.alloc (.cells #[.int .i64 y] 3)).grownBy w' v.ownBlock → (v.ownBlock = some g ∨ w.heap.size < g) → wpList Tryz.prog ops Q rest (a.put o.dst (.slice (some ⟨g, 0, none⟩) (l.length + 1) cap)) w') :
    wpList Tryz.prog ops Q (o :: rest) a (w.alloc (.cells #[.int .i64 y] 3)) := by
  subst ht
  obtain ⟨i0, hi, hz0, hz1, hz2⟩ := info_parts infoInt
  refine wpList_append_lies _ hgd s x 32 ho B 3 i0 (.int .i64 0) 1 8 Tryz.underlying32 hi hz0 hz1 hz2 rfl (by decide) v l.length (ivs l) hs (hown.bel (vb_a (Below.refl _ _) _)).1 ⟨w.heap.size, 0, none⟩ 1 1 [.int .i64 y] hx rfl (cell_one_new _ _ _) (ints_oneCell .i64 [y]) (by decide) (by unfold maxLen; omega) (by omega) (by simp; omega) _ rfl ?_
  intro g cap w' h1 h2 h3 h4
  refine h g cap w' ⟨?_, ?_⟩ h2 (h3.imp id (fun e => by rw [e]; simp))
  · have e : ivs (l ++ [y]) = ivs l ++ [.int .i64 y] := by simp [ivs]
    rw [e, List.length_append]
    exact h1
  · intro z hz
    rcases List.mem_append.1 hz with hz | hz
    · exact hown.2 z hz
    · simp at hz; exact hz ▸ hy
/-- A map of numbers by numbers. -/
def CM (w : World) (mb cnt : Nat) (c : Int → Int) : Prop := ∃ D : DataW Unit, w.ownsMap Tryz.prog 3 (plainElem Tryz.prog 3) mb cnt D ∧ ∀ x, I64 x → D.atKey (.int .i64 x) (.lit (.int .i64 0)) = .lit (.int .i64 (c x))
theorem wfi {x : Int} (h : I64 x) : (Lit.int .i64 x).wf = true := WalkArith.wf_i64 (by unfold I64 at h; omega)
theorem lawI : Keyed Tryz.prog 3 := int_keyed Tryz.underlying3
theorem zeroI (w : World) : (zeroValue 3).run Tryz.prog w = .ok (.int .i64 0) w := by kernel_rfl
theorem CM.made (w : World) : CM (w.alloc (.map #[] 0)) w.heap.size 0 (fun _ => 0) := ⟨.map [], World.ownsMap_made _ _ _ _, fun _ _ => rfl⟩
theorem CM.blk {w w' : World} {mb cnt : Nat} {c : Int → Int} (h : CM w mb cnt c) (hb : w'.heap[mb]? = w.heap[mb]?) : CM w' mb cnt c := by
  obtain ⟨D, ⟨es, clock, h1, h2⟩, h3⟩ := h
  exact ⟨D, ⟨es, clock, hb.trans h1, h2⟩, h3⟩
theorem CM.lt {w : World} {mb cnt : Nat} {c : Int → Int} (h : CM w mb cnt c) : mb < w.heap.size := by
  obtain ⟨D, h1, _⟩ := h
  exact h1.lt
theorem wpList_look_cm {w : World} {ops : Array Oper} {rest : List Oper} {o : Oper} {a : Act} {Q : Exit → Act → World → Prop} (hg : o.guard = none) (m x : Operand) (hop : o.op = Op.lookup 100 m x false)
    (mb cnt : Nat) (c : Int → Int) (hm : a.eval m = .map (some mb)) (hown : CM w mb cnt c) (y : Int) (hx : a.eval x = .int .i64 y) (hy : I64 y)
    (hK : wpList Tryz.prog ops Q rest (a.put o.dst (.int .i64 (c y))) w) : wpList Tryz.prog ops Q (o :: rest) a w := by
  obtain ⟨D, h1, h2⟩ := hown
  refine wpList_lookup_own_int _ hg m x 100 hop 3 3 .i64 lawI Tryz.underlying100 Tryz.underlying3 (zeroI _) mb cnt D hm h1 _ _ hx (keyOf_int_mk Tryz.underlying3 (wfi hy)) ?_
  intro c' hat hwc
  rw [h2 y hy] at hat
  injection hat with hat
  injection hat with _ hat
  rw [← hat]
  exact hK
theorem wpList_put_cm {w : World} {ops : Array Oper} {rest : List Oper} {o : Oper} {a : Act} {Q : Exit → Act → World → Prop} (hg : o.guard = none) (m x v : Operand) (hop : o.op = Op.mapUpdate 100 m x v)
    (mb cnt : Nat) (c : Int → Int) (hm : a.eval m = .map (some mb)) (hown : CM w mb cnt c) (hn : cnt < 17592186044416) (y z : Int) (hx : a.eval x = .int .i64 y) (hv : a.eval v = .int .i64 z) (hy : I64 y) (hz : I64 z)
    (hK : ∀ w', CM w' mb (cnt + 1) (fun u => if u = y then z else c u) → w.grownBy w' (some mb) → wpList Tryz.prog ops Q rest (a.put o.dst undef) w') : wpList Tryz.prog ops Q (o :: rest) a w := by
  obtain ⟨D, h1, h2⟩ := hown
  refine wpList_mapUpdate_own _ hg m x v 100 hop 3 3 lawI Tryz.underlying100 _ mb cnt D hm h1 (by unfold maxLen; omega) _ _ _ hx hv (keyOf_int_mk Tryz.underlying3 (wfi hy)) _ [] (plainElem_int Tryz.underlying3 (wfi hz)) ?_
  intro w' h3 h4
  refine hK w' ⟨_, h3, fun u hu => ?_⟩ h4
  dsimp only
  by_cases e : u = y
  · subst e
    rw [if_pos rfl]
    exact atKey_put_same h1.isMap (show WideAt.IsKeyLit (Lit.int .i64 u) from trivial) _ _
  · rw [if_neg e, atKey_put_other (by intro e'; injection e' with _ e'; exact e e')]
    exact h2 u hu
end Go.Proofs.YtoinlmfodmgohaaGreatDoor
