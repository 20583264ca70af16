/-
  Plain mathematics: what a step of UTF-8 says of bytes that agree. No condition but that bytes are below 256.
  Plain mathematics: a valid text that is cut at a byte below 128 is valid on both sides. No condition.
  What json's reader reads of a key and of a further value. Conditions: at most 2^20 bytes; the tables as they are laid.
-/
import Derived.Test.YtlahlnocjfphjaaGreatDoorJoined34
import Derived.Test.YtlahlnocjfphjaaGreatDoorJoined16
import Derived.Test.YtlahlnocjfphjaaGreatDoorJoined33
import Derived.Deep.RegionHeld3
namespace Go.Proofs.YtlahlnocjfphjaaGreatDoor.Lx
open Go.RowKit

theorem stN_range (c : Int) : stN c = 0 ∨ stN c = 1 ∨ stN c = 2 ∨ stN c = 3 ∨ stN c = 4 := by
  unfold stN; repeat' split
  all_goals omega

theorem stepF_false (r : Nat) (F : Nat → Int) (a : Nat) (h : stepF r F = (a, false)) :
    (a = 0 ∧ stN (F 0) = 0) ∨ (1 ≤ a ∧ a ≤ 3 ∧ (a : Int) < stN (F 0) ∧ (2 ≤ a → secB (F 0) (F 1) = true) ∧ (3 ≤ a → folB (F 2) = true) ∧ (r ≤ a ∨ (a = 1 ∧ secB (F 0) (F 1) = false) ∨ (a = 2 ∧ folB (F 2) = false) ∨ (a = 3 ∧ folB (F 3) = false))) := by
  have hr := stN_range (F 0)
  unfold stepF at h
  repeat' split at h
  all_goals simp only [Prod.mk.injEq, Bool.true_eq_false, and_false, and_true] at h
  · exact .inl ⟨h.symm, ‹_›⟩
  · subst h; exact .inr ⟨by omega, by omega, by omega, by omega, by omega, .inl ‹_›⟩
  · subst h; exact .inr ⟨by omega, by omega, by omega, by omega, by omega, .inr (.inl ⟨rfl, ‹_›⟩)⟩
  · subst h; exact .inr ⟨by omega, by omega, by omega, fun _ => by simp_all, by omega, .inl ‹_›⟩
  · subst h; exact .inr ⟨by omega, by omega, by omega, fun _ => by simp_all, by omega, .inr (.inr (.inl ⟨rfl, ‹_›⟩))⟩
  · subst h; exact .inr ⟨by omega, by omega, by omega, fun _ => by simp_all, fun _ => by simp_all, .inl ‹_›⟩
  · subst h; exact .inr ⟨by omega, by omega, by omega, fun _ => by simp_all, fun _ => by simp_all, .inr (.inr (.inr ⟨rfl, ‹_›⟩))⟩

theorem step_bad (r r' : Nat) (F G : Nat → Int) (a : Nat) (l : ∀ i, 0 ≤ G i) (u : ∀ i, G i < 256) (h : stepF r F = (a, false)) (har : a < r) (har' : a < r') (he : ∀ i, i ≤ a → G i = F i) : (stepF r' G).2 = false := by
  rcases stepF_false r F a h with ⟨rfl, z⟩ | ⟨a1, a3, ah, s2, s3, hb⟩
  · rw [stepF_none r' G (by rw [he 0 (by omega)]; exact z)]
  · have e0 := he 0 (by omega)
    have e1 := he 1 (by omega)
    have hp : passed r' G a := by
      refine ⟨fun h2 => ⟨by omega, ?_⟩, fun h3 => ⟨by omega, ?_⟩, fun h4 => by omega⟩
      · rw [e0, e1]; exact s2 h2
      · rw [he 2 (by omega)]; exact s3 h3
    have hb' : r' ≤ a ∨ folB (G a) = false ∨ okAt G a = false := by
      rcases hb with z | ⟨rfl, z⟩ | ⟨rfl, z⟩ | ⟨rfl, z⟩
      · omega
      · exact .inr (.inr (by simp [okAt, e0, e1, z]))
      · exact .inr (.inl (by rw [he 2 (by omega)]; exact z))
      · exact .inr (.inl (by rw [he 3 (by omega)]; exact z))
    rw [stepF_part r' G (l 0) (u 0) a a1 (by rw [e0]; exact ah) hp hb']

theorem step_good (r r' : Nat) (F G : Nat → Int) (a : Nat) (l : ∀ i, 0 ≤ G i) (u : ∀ i, G i < 256) (h : stepF r F = (a, true)) (har' : a ≤ r') (he : ∀ i, i < a → G i = F i) : stepF r' G = (a, true) := by
  have hr := stN_range (F 0)
  rcases stepF_true r F a h with ⟨rfl, z⟩ | ⟨rfl, z, _, s⟩ | ⟨rfl, z, _, s, t⟩ | ⟨rfl, z0, z1, z2, z3, _, s, t, v⟩
  · have e0 := he 0 (by omega)
    exact stepF_whole r' G (l 0) (u 0) (by rw [e0, z]; decide) 1 (by rw [e0, z]; rfl) ⟨by omega, by omega, by omega⟩
  · have e0 := he 0 (by omega)
    have e1 := he 1 (by omega)
    exact stepF_whole r' G (l 0) (u 0) (by rw [e0, z]; decide) 2 (by rw [e0, z]; rfl) ⟨fun _ => ⟨by omega, by rw [e0, e1]; exact s⟩, by omega, by omega⟩
  · have e0 := he 0 (by omega)
    have e1 := he 1 (by omega)
    have e2 := he 2 (by omega)
    exact stepF_whole r' G (l 0) (u 0) (by rw [e0, z]; decide) 3 (by rw [e0, z]; rfl) ⟨fun _ => ⟨by omega, by rw [e0, e1]; exact s⟩, fun _ => ⟨by omega, by rw [e2]; exact t⟩, by omega⟩
  · have e0 := he 0 (by omega)
    have e1 := he 1 (by omega)
    have e2 := he 2 (by omega)
    have e3 := he 3 (by omega)
    have z : stN (F 0) = 4 := by omega
    exact stepF_whole r' G (l 0) (u 0) (by rw [e0, z]; decide) 4 (by rw [e0, z]; rfl) ⟨fun _ => ⟨by omega, by rw [e0, e1]; exact s⟩, fun _ => ⟨by omega, by rw [e2]; exact t⟩, fun _ => ⟨by omega, by rw [e3]; exact v⟩⟩

end Go.Proofs.YtlahlnocjfphjaaGreatDoor.Lx

namespace Go.Proofs.YtlahlnocjfphjaaGreatDoor.Lx
open Go.RowKit

theorem passL_all {l : List UInt8} {p : Int → Bool} (k : Nat) : ∀ i j, i ≤ j → j < passL l p k i → p (bx l j) = true := by
  induction k with
  | zero => intro i j h1 h2; simp only [passL] at h2; omega
  | succ k ih =>
    intro i j h1 h2
    simp only [passL] at h2
    split at h2
    · rename_i g
      by_cases e : i = j
      · subst e; simp [hasAt] at g; exact g.2
      · exact ih (i + 1) j (by omega) h2
    · omega
theorem pass_all {l : List UInt8} {p : Int → Bool} {i j : Nat} (h1 : i ≤ j) (h2 : j < pass l p i) : p (bx l j) = true := passL_all _ i j h1 h2
theorem passL_end {l : List UInt8} {p : Int → Bool} (k : Nat) : ∀ i, l.length ≤ i + k → hasAt l (passL l p k i) p = false := by
  induction k with
  | zero => intro i h; simp only [passL]; exact hasAt_out p (by omega)
  | succ k ih =>
    intro i h
    simp only [passL]
    split
    · exact ih (i + 1) (by omega)
    · rename_i g; simpa using g
theorem pass_end (l : List UInt8) (p : Int → Bool) (i : Nat) : hasAt l (pass l p i) p = false := passL_end _ i (by omega)

theorem goodF_fuel (len : Nat) (f : Nat → Int) (k : Nat) : ∀ k' p, len ≤ p + k → len ≤ p + k' → goodF len f k p = goodF len f k' p := by
  induction k with
  | zero =>
    intro k' p h1 h2
    cases k' with
    | zero => rfl
    | succ k' => simp only [goodF]; rw [if_pos (by omega)]
  | succ k ih =>
    intro k' p h1 h2
    cases k' with
    | zero => simp only [goodF]; rw [if_pos (by omega)]
    | succ k' =>
      simp only [goodF]
      by_cases g : len ≤ p
      · rw [if_pos g, if_pos g]
      · rw [if_neg g, if_neg g]
        by_cases g2 : (stepF (len - p) fun i => f (p + i)).2 = true
        · rw [if_pos g2, if_pos g2]
          have := stepF_pos _ _ g2
          exact ih k' _ (by omega) (by omega)
        · rw [if_neg g2, if_neg g2]
theorem goodF_shift (len : Nat) (f : Nat → Int) (p : Nat) (hp : p ≤ len) (k : Nat) : ∀ q, (goodF len f k (p + q)).2 = (goodF (len - p) (fun i => f (p + i)) k q).2 := by
  induction k with
  | zero => intro q; rfl
  | succ k ih =>
    intro q
    simp only [goodF]
    rw [show len - (p + q) = len - p - q by omega]
    have e : (fun i => f (p + q + i)) = fun i => f (p + (q + i)) := by funext i; rw [Nat.add_assoc]
    rw [e]
    by_cases g : len ≤ p + q
    · rw [if_pos g, if_pos (show len - p ≤ q by omega)]
    · rw [if_neg g, if_neg (show ¬ len - p ≤ q by omega)]
      by_cases g2 : (stepF (len - p - q) fun i => f (p + (q + i))).2 = true
      · rw [if_pos g2, if_pos g2, Nat.add_assoc]
        exact ih _
      · rw [if_neg g2, if_neg g2]
theorem bx_drop (t : List UInt8) (n : Nat) : bx (t.drop n) = fun i => bx t (n + i) := by funext i; simp [bx, List.getElem?_drop]
/-- A valid text begins with a whole step, and goes on as one. -/
theorem good_iff {t : List UInt8} (h0 : t ≠ []) : (goodL t).2 = true ↔ ∃ n, stepF t.length (bx t) = (n, true) ∧ n ≤ t.length ∧ (goodL (t.drop n)).2 = true := by
  have hl : 0 < t.length := List.length_pos_iff.2 h0
  obtain ⟨k, hk⟩ : ∃ k, t.length = k + 1 := ⟨t.length - 1, by omega⟩
  unfold goodL good
  have e0 : (fun i => bx t (0 + i)) = bx t := by funext i; rw [Nat.zero_add]
  have key : ∀ n, 1 ≤ n → n ≤ t.length → (goodF t.length (bx t) k n).2 = (goodF (t.drop n).length (bx (t.drop n)) (t.drop n).length 0).2 := fun n h1 hn => by
    rw [goodF_fuel t.length (bx t) k (t.length - n) n (by omega) (by omega)]
    have := goodF_shift t.length (bx t) n hn (t.length - n) 0
    rw [Nat.add_zero] at this
    rw [this, bx_drop, List.length_drop]
  have hs := stepF_le t.length (bx t) hl
  rw [show goodF t.length (bx t) t.length 0 = goodF t.length (bx t) (k + 1) 0 by rw [← hk]]
  simp only [goodF]
  rw [if_neg (by omega), Nat.sub_zero, e0, Nat.zero_add]
  cases hst : stepF t.length (bx t) with
  | mk n ok =>
    rw [hst] at hs
    simp only at hs ⊢
    cases ok
    · simp
    · rw [if_pos rfl]
      have hp := stepF_pos t.length (bx t) (by rw [hst])
      rw [hst] at hp
      rw [key n hp hs]
      constructor
      · intro h; exact ⟨n, rfl, hs, h⟩
      · rintro ⟨m, hm, _, h⟩; cases hm; exact h
theorem good_split (n : Nat) : ∀ {a b : List UInt8} {c : UInt8}, a.length ≤ n → c.toNat < 128 → (goodL (a ++ c :: b)).2 = true → (goodL a).2 = true ∧ (goodL b).2 = true := by
  induction n with
  | zero =>
    intro a b c ha hc h
    obtain rfl : a = [] := List.length_eq_zero_iff.1 (by omega)
    obtain ⟨n, hs, _, hd⟩ := (good_iff (by simp)).1 h
    have e0 : bx ([] ++ c :: b) 0 = (c.toNat : Int) := by simp [bx]
    have : stepF ([] ++ c :: b).length (bx ([] ++ c :: b)) = (1, true) := by
      have hs1 : stN (c.toNat : Int) = 1 := if_pos (by omega)
      unfold stepF
      rw [e0, if_neg (by rw [hs1]; decide), if_pos hs1]
    rw [this] at hs
    obtain rfl : 1 = n := (Prod.mk.inj hs).1
    exact ⟨rfl, by simpa using hd⟩
  | succ n ih =>
    intro a b c ha hc h
    by_cases h0 : a = []
    · subst h0; exact ih (by simp) hc h
    · have hap := List.length_pos_iff.2 h0
      obtain ⟨m, hs, hm, hd⟩ := (good_iff (by simp)).1 h
      have hp := stepF_pos _ _ (by rw [hs])
      rw [hs] at hp
      simp only at hp
      have hcx : bx (a ++ c :: b) a.length = (c.toNat : Int) := by simp [bx]
      have hma : m ≤ a.length := by
        rcases step_bytes _ _ _ hs with ⟨e, _⟩ | ⟨e, _, _, _, x1, _⟩ | ⟨e, _, _, _, x1, _, _, _, x2, _⟩ | ⟨e, _, _, _, x1, _, _, _, x2, _, x3, _⟩
        · omega
        all_goals
          apply Nat.le_of_not_lt
          intro hlt
          have q : a.length = 1 ∨ a.length = 2 ∨ a.length = 3 := by omega
          rcases q with q | q | q <;> rw [q] at hcx <;> omega
      have hag : ∀ i, i < m → bx a i = bx (a ++ c :: b) i := fun i hi => by
        unfold bx; rw [List.getElem?_append_left (by omega)]
      have hsa : stepF a.length (bx a) = (m, true) := step_good _ _ _ _ _ (bx_lo a) (bx_hi a) hs hma hag
      rw [List.drop_append_of_le_length hma] at hd
      have r := ih (a := a.drop m) (by simp; omega) hc hd
      exact ⟨(good_iff h0).2 ⟨m, hsa, hma, r.1⟩, r.2⟩
end Go.Proofs.YtlahlnocjfphjaaGreatDoor.Lx

namespace Go.Proofs.YtlahlnocjfphjaaGreatDoor
open Go.RowKit Go.Maps

/-- More blocks set apart. -/
@[instance_reducible] def exAdd (X : Ex) (B : Nat → Prop) : Ex := ⟨fun b => X.E b ∨ B b⟩
theorem ST.add {X : Ex} {w w' : World} {rb : Nat} {ov : Value} {hs : List HC} (h : @ST X w rb ov hs) (hb : Below w.heap.size w w') (B : Nat → Prop) (hB : ∀ b, B b → w.heap.size ≤ b ∧ b < w'.heap.size) : @ST (exAdd X B) w' rb ov hs := by
  have h' := h.bel hb
  refine @ST.mk (exAdd X B) w' rb ov hs h'.row h'.nd (fun x hx => ?_) h'.kd (fun b hb1 e => ?_) (fun b hb1 => ?_)
  · refine (h.ho x hx).keep (fun b hb1 => hb.block b ((h.ho x hx).lt b hb1).2) (fun b hb1 hl => ⟨hb.block b hl, fun e => ?_⟩)
    rcases e with e | e
    · rcases e with e | e
      · exact hb1 (Or.inl e)
      · have := (hB b e).1; omega
    · exact hb1 (Or.inr e)
  · rcases e with e | e
    · exact h.ex b hb1 e
    · have h1 := (hB b e).1
      have := (h.lt b hb1).2
      omega
  · rcases hb1 with e | e
    · exact h'.exlt b e
    · exact (hB b e).2
theorem ST.less {X : Ex} {w : World} {rb : Nat} {ov : Value} {hs : List HC} {B : Nat → Prop} (h : @ST (exAdd X B) w rb ov hs) : @ST X w rb ov hs := by
  obtain ⟨row, nd, ho, kd, ex, exlt⟩ := h
  refine @ST.mk X w rb ov hs row nd (fun x hx => (ho x hx).keep (fun _ _ => rfl) (fun b hb1 _ => ⟨rfl, fun e => hb1 ?_⟩)) kd (fun b hb1 e => ex b hb1 (Or.inl e)) (fun b hb1 => exlt b (Or.inl hb1))
  rcases e with e | e
  · exact Or.inl (Or.inl e)
  · exact Or.inr e
theorem ST.side [Ex] {w w' : World} {rb : Nat} {ov : Value} {hs : List HC} (h : ST w rb ov hs) (hb : But (fun b => Ex.E b) w w') : ST w' rb ov hs := by
  have key : ∀ b ∈ muts ov hs, w'.heap[b]? = w.heap[b]? := fun b hb' => hb.block b (h.lt b hb').2 (h.ex b hb')
  exact ⟨own_keep h.row fun b hb' => key b (mem_mutsO hb'), h.nd, fun x hx => (h.ho x hx).keep (fun b hb' => key b (mem_muts hx hb')) (fun b hb1 hlt => ⟨hb.block b hlt (fun e => hb1 (Or.inl e)), hb1⟩), h.kd, h.ex, fun b hb' => Nat.lt_of_lt_of_le (h.exlt b hb') hb.size⟩
theorem JR.add {X : Ex} {W : World} {l : List UInt8} {v : Value} {lm : Nat → Int} {rb : Nat} {s : SS} {ov : Value} {hs : List HC} {w w' : World} (h : @JR X W l v lm rb s ov hs w) (hb : Below w.heap.size w w') (B : Nat → Prop) (hB : ∀ b, B b → w.heap.size ≤ b ∧ b < w'.heap.size) : @JR (exAdd X B) W l v lm rb s ov hs w' :=
  @JR.mk (exAdd X B) W l v lm rb s ov hs w' (h.rd.below hb) (h.st.add hb B hB) h.eq h.sn (vb_t h.bel hb) h.lo h.le h.n1 h.n2 h.n3
theorem JR.less {X : Ex} {W : World} {l : List UInt8} {v : Value} {lm : Nat → Int} {rb : Nat} {s : SS} {ov : Value} {hs : List HC} {w : World} {B : Nat → Prop} (h : @JR (exAdd X B) W l v lm rb s ov hs w) : @JR X W l v lm rb s ov hs w := by
  obtain ⟨rd, st, eq, sn, bel, lo, le, n1, n2, n3⟩ := h
  exact @JR.mk X W l v lm rb s ov hs w rd (ST.less st) eq sn bel lo le n1 n2 n3
theorem JR.side [Ex] {W : World} {l : List UInt8} {v : Value} {lm : Nat → Int} {rb : Nat} {s : SS} {ov : Value} {hs : List HC} {w w' : World} (h : JR W l v lm rb s ov hs w) (hb : But (fun b => Ex.E b) w w') (hrb : ∀ b, Ex.E b → rb < b) : JR W l v lm rb s ov hs w' := by
  have he : w'.heap[rb]? = w.heap[rb]? := hb.block rb h.rd.lt (fun e => by have := hrb rb e; omega)
  refine ⟨fun j hj => ⟨(World.cell?_of_block (w := w) (w' := w') he).trans (h.rd j hj).1, by have := (h.rd j hj).2; unfold World.frozen? at this ⊢; rw [he]; exact this⟩, h.st.side hb, h.eq, h.sn, ?_, h.lo, h.le, h.n1, h.n2, h.n3⟩
  refine h.bel.trans ⟨hb.os, hb.tape, hb.output, hb.size, fun k hk => hb.block k (by have := h.rd.lt; have := h.lo; omega) (fun e => ?_)⟩
  have := hrb k e
  have := h.lo
  omega
/-- What comes, or the panic with its verdict. -/
def StepR {α : Type} (x : Except Nat α) (ok : α → Ending → World → Prop) (rb : Nat) (w : World) (r : Ending) (w' : World) : Prop :=
  match x with
  | .ok a => ok a r w'
  | .error n => r = stopE 3 (n : Nat) ∧ Below rb w w'
theorem but_rb {rb : Nat} {w w' : World} (h : But (· = rb) w w') (hlt : rb < w.heap.size) : Below rb w w' := ⟨h.os, h.tape, h.output, h.size, fun k hk => h.block k (by omega) (by omega)⟩
/-- A token is taken. -/
theorem JR.take [Ex] {W : World} {l : List UInt8} {v : Value} {lm : Nat → Int} {rb : Nat} {s : SS} {ov : Value} {hs : List HC} {w w' : World} (hJ : JR W l v lm rb s ov hs w) (hb : But (· = rb) w w') (i : Nat) (hr : Rd w' rb (upd (RF v lm s.i ov s.dp s.ps) 1 (.int .i64 (i : Nat)))) (hi : s.i ≤ i) (hl : i ≤ l.length) : JR W l v lm rb { s with i := i } ov hs w' := by
  rw [RF_i] at hr
  exact ⟨hr, hJ.st.rb hb, hJ.eq, hJ.sn, hJ.bel.trans ((but_rb hb hJ.rd.lt).mono hJ.lo), hJ.lo, hl, Nat.le_trans hJ.n1 hi, fun h hh => ⟨Nat.le_trans (hJ.n2 h hh).1 hi, Nat.le_trans (hJ.n2 h hh).2 hi⟩, Nat.le_trans hJ.n3 hi⟩
theorem takeL_ok {fs : ByteArray} {l : List UInt8} {i : Nat} {t : Lx.Tok} (h : takeS fs l i = .ok t) : i < t.to ∧ t.to ≤ l.length ∧ t.text.length ≤ l.length := by
  unfold takeS takeL at h
  split at h
  · rename_i hh
    have hlt : Lx.pass l Lx.blankB i < l.length := Classical.byContradiction fun hc => by rw [Lx.hasAt_out _ hc] at hh; cases hh
    have hge := Lx.pass_ge l Lx.blankB i
    unfold Lx.nextL at h
    have hge2 := Lx.pass_ge l Lx.blankB (Lx.pass l Lx.blankB i)
    have hle2 : Lx.pass l Lx.blankB (Lx.pass l Lx.blankB i) ≤ l.length := Lx.pass_le (by omega)
    have h3 := Lx.readL_text hle2 h
    rcases Lx.readL_le hle2 h with ⟨h1, h2⟩ | ⟨h1, h2⟩
    · rw [Lx.pass_stop (Lx.pass_end l Lx.blankB i)] at h2
      omega
    · exact ⟨by omega, h2, h3⟩
  · cases h
/-- (*reader).take, as the reader's state turns. -/
theorem take_jr [Ex] {W : World} {l : List UInt8} {v : Value} {lm : Nat → Int} {rb : Nat} {s : SS} {ov : Value} {hs : List HC} {w : World} (hE : Lx.Env W) (hB : Lx.Byt W v l) (hl : l.length ≤ 1048576) (hJ : JR W l v lm rb s ov hs w) (fs : ByteArray) :
    Calls Tryz.prog 51 #[.pointer (some ⟨rb, 0, none⟩), .string fs] w (StepR (takeS fs l s.i) (fun t r w' => r = .returned (Lx.tokV t) ∧ JR W l v lm rb { s with i := t.to } ov hs w' ∧ But (· = rb) w w' ∧ (s.i < t.to ∧ t.to ≤ l.length ∧ t.text.length ≤ l.length)) rb w) := by
  refine (take_any l v W w rb s.i (RF v lm s.i ov s.dp s.ps) fs hE hB (by omega) hJ.bel hJ.lo hJ.rd rfl rfl hJ.le).mono fun r w' hr => ?_
  obtain ⟨hb, hr⟩ := hr
  have e : takeL fs l (Lx.pass l Lx.blankB s.i) = takeS fs l s.i := rfl
  rw [e] at hr
  cases ht : takeS fs l s.i with
  | error n =>
    rw [ht] at hr
    exact ⟨hr, but_rb hb hJ.rd.lt⟩
  | ok t =>
    rw [ht] at hr
    obtain ⟨h1, h2⟩ := hr
    have h3 := takeL_ok ht
    exact ⟨h1, hJ.take hb t.to h2 (by omega) h3.2.1, hb, h3⟩
theorem lastS_of [Ex] {W : World} {l : List UInt8} {v : Value} {lm : Nat → Int} {rb : Nat} {s : SS} {ov : Value} {hs0 : List HC} {h : HC} {w : World} (hJ : JR W l v lm rb s ov (hs0 ++ [h]) w) : lastS s = (h.k, h.vs.map (·.1), h.ks) := by unfold lastS; rw [hJ.eq]; simp
/-- A key is kept. -/
theorem JR.keep [Ex] {W : World} {l : List UInt8} {v : Value} {lm : Nat → Int} {rb : Nat} {s : SS} {ov : Value} {hs0 : List HC} {h : HC} {kv mv : Value} {key : ByteArray} {w w' : World} (hJ : JR W l v lm rb s ov (hs0 ++ [h]) w) (hst : ST w' rb ov (hs0 ++ [hkey h kv mv key])) (hm : Mr rb ov (hs0 ++ [h]) w ov (hs0 ++ [hkey h kv mv key]) w') (hn : h.ks.length < s.i) : JR W l v lm rb (addK key s) ov (hs0 ++ [hkey h kv mv key]) w' := by
  refine ⟨hm.rd hJ.rd, hst, ?_, fun x hx => ?_, hJ.bel.trans ((hm.mv.below hJ.st hJ.rd.lt).mono hJ.lo), hJ.lo, hJ.le, ?_, fun x hx => ?_, hJ.n3⟩
  · show s.hs.dropLast ++ [((lastS s).1, (lastS s).2.1, (lastS s).2.2 ++ [key])] = _
    rw [lastS_of hJ, hJ.eq]
    simp [hkey]
  · rcases List.mem_append.1 hx with hx | hx
    · exact hJ.sn x (List.mem_append_left _ hx)
    · obtain rfl : x = hkey h kv mv key := by simpa using hx
      show h.sn ++ [key] = h.ks ++ [key]
      rw [hJ.sn h (by simp)]
  · have := hJ.n1; simp at this ⊢; exact this
  · rcases List.mem_append.1 hx with hx | hx
    · exact hJ.n2 x (List.mem_append_left _ hx)
    · obtain rfl : x = hkey h kv mv key := by simpa using hx
      refine ⟨(hJ.n2 h (by simp)).1, ?_⟩
      show (h.ks ++ [key]).length ≤ s.i
      simp; omega
end Go.Proofs.YtlahlnocjfphjaaGreatDoor
