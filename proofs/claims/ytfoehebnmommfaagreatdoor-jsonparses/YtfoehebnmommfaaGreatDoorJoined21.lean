/-
  Plain mathematics: a whole step of UTF-8, and what the model's own decoding of a text makes of it. No condition but that the bytes are those of the text.
  Plain mathematics: what a step of UTF-8 says of bytes that agree. No condition but that bytes are below 256.
  Plain mathematics: a valid text that is cut at a byte below 128 is valid on both sides. No condition.
  What json's reader reads of a key and of a further value. Conditions: at most 2^20 bytes; the tables as they are laid.
  What json's reader reads of the value behind a key. Conditions: at most 2^20 bytes; the tables as they are laid.
-/
import Derived.Test.YtfoehebnmommfaaGreatDoorJoined2
import Derived.Test.YtfoehebnmommfaaGreatDoorJoined8
import Derived.Test.YtfoehebnmommfaaGreatDoorJoined20
import Derived.Deep.RegionHeld3
namespace Go.Proofs.YtfoehebnmommfaaGreatDoor.Lx
open Go.RowKit
set_option linter.unusedSimpArgs false
set_option linter.unusedVariables false

theorem stepF_true (r : Nat) (g : Nat → Int) (n : Nat) (h : stepF r g = (n, true)) :
  (n = 1 ∧ stN (g 0) = 1) ∨ (n = 2 ∧ stN (g 0) = 2 ∧ 1 < r ∧ secB (g 0) (g 1) = true) ∨ (n = 3 ∧ stN (g 0) = 3 ∧ 2 < r ∧ secB (g 0) (g 1) = true ∧ folB (g 2) = true) ∨
  (n = 4 ∧ stN (g 0) ≠ 0 ∧ stN (g 0) ≠ 1 ∧ stN (g 0) ≠ 2 ∧ stN (g 0) ≠ 3 ∧ 3 < r ∧ secB (g 0) (g 1) = true ∧ folB (g 2) = true ∧ folB (g 3) = true) := by
 unfold stepF at h
 repeat' split at h
 all_goals simp only [Prod.mk.injEq, Bool.false_eq_true, and_false, and_true] at h
 ·exact .inl ⟨h.symm, ‹_›⟩
 ·exact .inr (.inl ⟨h.symm, ‹_›, by omega, by simp_all⟩)
 ·exact .inr (.inr (.inl ⟨h.symm, ‹_›, by omega, by simp_all, by simp_all⟩))
 ·exact .inr (.inr (.inr ⟨h.symm, ‹_›, ‹_›, ‹_›, ‹_›, by omega, by simp_all, by simp_all, by simp_all⟩))
theorem stN_one (c : Int) (e : stN c = 1) : c < 128 := by
 unfold stN at e; repeat' split at e
 all_goals omega
theorem stN_four' (c : Int) (a : stN c ≠ 0) (b : stN c ≠ 1) (d : stN c ≠ 2) (e : stN c ≠ 3) : 240 ≤ c ∧ c ≤ 244 := by
 unfold stN at *; repeat' split at a
 all_goals omega
theorem step_bytes (r : Nat) (g : Nat → Int) (n : Nat) (h : stepF r g = (n, true)) :
  (n = 1 ∧ g 0 < 128) ∨ (n = 2 ∧ 1 < r ∧ 194 ≤ g 0 ∧ g 0 ≤ 223 ∧ 128 ≤ g 1 ∧ g 1 ≤ 191) ∨
  (n = 3 ∧ 2 < r ∧ 224 ≤ g 0 ∧ g 0 ≤ 239 ∧ 128 ≤ g 1 ∧ g 1 ≤ 191 ∧ (g 0 = 224 → 160 ≤ g 1) ∧ (g 0 = 237 → g 1 ≤ 159) ∧ 128 ≤ g 2 ∧ g 2 ≤ 191) ∨
  (n = 4 ∧ 3 < r ∧ 240 ≤ g 0 ∧ g 0 ≤ 244 ∧ 128 ≤ g 1 ∧ g 1 ≤ 191 ∧ (g 0 = 240 → 144 ≤ g 1) ∧ (g 0 = 244 → g 1 ≤ 143) ∧ 128 ≤ g 2 ∧ g 2 ≤ 191 ∧ 128 ≤ g 3 ∧ g 3 ≤ 191) := by
 rcases stepF_true r g n h with ⟨e, a⟩ | ⟨e, a, l, s⟩ | ⟨e, a, l, s, t⟩ | ⟨e, a0, a1, a2, a3, l, s, t, u⟩
 ·exact .inl ⟨e, stN_one _ a⟩
 ·have b := stN_two _ a
  have f := secB_fol _ _ s
  rw [folB_iff] at f
  exact .inr (.inl ⟨e, l, b.1, b.2, f.1, f.2⟩)
 ·have b := stN_three _ a
  have f := secB_fol _ _ s
  rw [folB_iff] at f t
  rw [secB_iff] at s
  refine .inr (.inr (.inl ⟨e, l, b.1, b.2, f.1, f.2, fun k => ?_, fun k => ?_, t.1, t.2⟩))
  ·rw [if_pos k] at s; exact s.1
  ·rw [if_pos (c := g 0 = 237) k] at s; exact s.2
 ·have b := stN_four' _ a0 a1 a2 a3
  have f := secB_fol _ _ s
  rw [folB_iff] at f t u
  rw [secB_iff] at s
  refine .inr (.inr (.inr ⟨e, l, b.1, b.2, f.1, f.2, fun k => ?_, fun k => ?_, t.1, t.2, u.1, u.2⟩))
  ·rw [if_neg (by omega), if_pos (c := g 0 = 240) k] at s; exact s.1
  ·rw [if_neg (c := g 0 = 237) (by omega), if_pos (c := g 0 = 244) k] at s; exact s.2
end Go.Proofs.YtfoehebnmommfaaGreatDoor.Lx

namespace Go.Proofs.YtfoehebnmommfaaGreatDoor.Lx
open Go.RowKit

theorem stN_range (c : Int) : stN c = 0 ∨ stN c = 1 ∨ stN c = 2 ∨ stN c = 3 ∨ stN c = 4 := by
 unfold stN; repeat' split
 all_goals omega
theorem stepF_false (r : Nat) (F : Nat → Int) (a : Nat) (h : stepF r F = (a, false)) :
  (a = 0 ∧ stN (F 0) = 0) ∨ (1 ≤ a ∧ a ≤ 3 ∧ (a : Int) < stN (F 0) ∧ (2 ≤ a → secB (F 0) (F 1) = true) ∧ (3 ≤ a → folB (F 2) = true) ∧ (r ≤ a ∨ (a = 1 ∧ secB (F 0) (F 1) = false) ∨ (a = 2 ∧ folB (F 2) = false) ∨ (a = 3 ∧ folB (F 3) = false))) := by
 have hr := stN_range (F 0)
 unfold stepF at h
 repeat' split at h
 all_goals simp only [Prod.mk.injEq, Bool.true_eq_false, and_false, and_true] at h
 ·exact .inl ⟨h.symm, ‹_›⟩
 ·subst h; exact .inr ⟨by omega, by omega, by omega, by omega, by omega, .inl ‹_›⟩
 ·subst h; exact .inr ⟨by omega, by omega, by omega, by omega, by omega, .inr (.inl ⟨rfl, ‹_›⟩)⟩
 ·subst h; exact .inr ⟨by omega, by omega, by omega, fun _ => by simp_all, by omega, .inl ‹_›⟩
 ·subst h; exact .inr ⟨by omega, by omega, by omega, fun _ => by simp_all, by omega, .inr (.inr (.inl ⟨rfl, ‹_›⟩))⟩
 ·subst h; exact .inr ⟨by omega, by omega, by omega, fun _ => by simp_all, fun _ => by simp_all, .inl ‹_›⟩
 ·subst h; exact .inr ⟨by omega, by omega, by omega, fun _ => by simp_all, fun _ => by simp_all, .inr (.inr (.inr ⟨rfl, ‹_›⟩))⟩
theorem step_good (r r' : Nat) (F G : Nat → Int) (a : Nat) (l : ∀ i, 0 ≤ G i) (u : ∀ i, G i < 256) (h : stepF r F = (a, true)) (har' : a ≤ r') (he : ∀ i, i < a → G i = F i) : stepF r' G = (a, true) := by
 have hr := stN_range (F 0)
 rcases stepF_true r F a h with ⟨rfl, z⟩ | ⟨rfl, z, _, s⟩ | ⟨rfl, z, _, s, t⟩ | ⟨rfl, z0, z1, z2, z3, _, s, t, v⟩
 ·have e0 := he 0 (by omega)
  exact stepF_whole r' G (l 0) (u 0) (by rw [e0, z]; decide) 1 (by rw [e0, z]; rfl) ⟨by omega, by omega, by omega⟩
 ·have e0 := he 0 (by omega)
  have e1 := he 1 (by omega)
  exact stepF_whole r' G (l 0) (u 0) (by rw [e0, z]; decide) 2 (by rw [e0, z]; rfl) ⟨fun _ => ⟨by omega, by rw [e0, e1]; exact s⟩, by omega, by omega⟩
 ·have e0 := he 0 (by omega)
  have e1 := he 1 (by omega)
  have e2 := he 2 (by omega)
  exact stepF_whole r' G (l 0) (u 0) (by rw [e0, z]; decide) 3 (by rw [e0, z]; rfl) ⟨fun _ => ⟨by omega, by rw [e0, e1]; exact s⟩, fun _ => ⟨by omega, by rw [e2]; exact t⟩, by omega⟩
 ·have e0 := he 0 (by omega)
  have e1 := he 1 (by omega)
  have e2 := he 2 (by omega)
  have e3 := he 3 (by omega)
  have z : stN (F 0) = 4 := by omega
  exact stepF_whole r' G (l 0) (u 0) (by rw [e0, z]; decide) 4 (by rw [e0, z]; rfl) ⟨fun _ => ⟨by omega, by rw [e0, e1]; exact s⟩, fun _ => ⟨by omega, by rw [e2]; exact t⟩, fun _ => ⟨by omega, by rw [e3]; exact v⟩⟩
end Go.Proofs.YtfoehebnmommfaaGreatDoor.Lx

namespace Go.Proofs.YtfoehebnmommfaaGreatDoor.Lx
open Go.RowKit

theorem passL_all {l : List UInt8} {p : Int → Bool} (k : Nat) : ∀ i j, i ≤ j → j < passL l p k i → p (bx l j) = true := by
 induction k with
 | zero => intro i j h1 h2; simp only [passL] at h2; omega
 | succ k ih =>
  intro i j h1 h2
  simp only [passL] at h2
  split at h2
  ·rename_i g
   by_cases e : i = j
   ·subst e; simp [hasAt] at g; exact g.2
   ·exact ih (i + 1) j (by omega) h2
  ·omega
theorem pass_all {l : List UInt8} {p : Int → Bool} {i j : Nat} (h1 : i ≤ j) (h2 : j < pass l p i) : p (bx l j) = true := passL_all _ i j h1 h2
theorem passL_end {l : List UInt8} {p : Int → Bool} (k : Nat) : ∀ i, l.length ≤ i + k → hasAt l (passL l p k i) p = false := by
 induction k with
 | zero => intro i h; simp only [passL]; exact hasAt_out p (by omega)
 | succ k ih =>
  intro i h
  simp only [passL]
  split
  ·exact ih (i + 1) (by omega)
  ·rename_i g; simpa using g
theorem pass_end (l : List UInt8) (p : Int → Bool) (i : Nat) : hasAt l (pass l p i) p = false := passL_end _ i (by omega)
theorem goodF_fuel (len : Nat) (f : Nat → Int) (k : Nat) : ∀ k' p, len ≤ p + k → len ≤ p + k' → goodF len f k p = goodF len f k' p := by
 induction k with
 | zero =>
  intro k' p h1 h2
  cases k' with
  | zero => rfl
  | succ k' => simp only [goodF]; rw [if_pos (by omega)]
 | succ k ih =>
  intro k' p h1 h2
  cases k' with
  | zero => simp only [goodF]; rw [if_pos (by omega)]
  | succ k' =>
   simp only [goodF]
   by_cases g : len ≤ p
   ·rw [if_pos g, if_pos g]
   ·rw [if_neg g, if_neg g]
    by_cases g2 : (stepF (len - p) fun i => f (p + i)).2 = true
    ·rw [if_pos g2, if_pos g2]
     have := stepF_pos _ _ g2
     exact ih k' _ (by omega) (by omega)
    ·rw [if_neg g2, if_neg g2]
theorem bx_drop (t : List UInt8) (n : Nat) : bx (t.drop n) = fun i => bx t (n + i) := by funext i; simp [bx, List.getElem?_drop]
end Go.Proofs.YtfoehebnmommfaaGreatDoor.Lx

namespace Go.Proofs.YtfoehebnmommfaaGreatDoor
open Go.RowKit Go.Maps

@[instance_reducible] def exAdd (X : Ex) (B : Nat → Prop) : Ex := ⟨fun b => X.E b ∨ B b⟩
theorem ST.add {X : Ex} {w w' : World} {rb : Nat} {ov : Value} {hs : List HC} (h : @ST X w rb ov hs) (hb : Below w.heap.size w w') (B : Nat → Prop) (hB : ∀ b, B b → w.heap.size ≤ b ∧ b < w'.heap.size) : @ST (exAdd X B) w' rb ov hs := by
 have h' := h.bel hb
 refine @ST.mk (exAdd X B) w' rb ov hs h'.row h'.nd (fun x hx => ?_) h'.kd (fun b hb1 e => ?_) (fun b hb1 => ?_)
 ·refine (h.ho x hx).keep (fun b hb1 => hb.block b ((h.ho x hx).lt b hb1).2) (fun b hb1 hl => ⟨hb.block b hl, fun e => ?_⟩)
  rcases e with e | e
  ·rcases e with e | e
   ·exact hb1 (Or.inl e)
   ·have := (hB b e).1; omega
  ·exact hb1 (Or.inr e)
 ·rcases e with e | e
  ·exact h.ex b hb1 e
  ·have h1 := (hB b e).1
   have := (h.lt b hb1).2
   omega
 ·rcases hb1 with e | e
  ·exact h'.exlt b e
  ·exact (hB b e).2
theorem ST.less {X : Ex} {w : World} {rb : Nat} {ov : Value} {hs : List HC} {B : Nat → Prop} (h : @ST (exAdd X B) w rb ov hs) : @ST X w rb ov hs := by
 obtain ⟨row, nd, ho, kd, ex, exlt⟩ := h
 refine @ST.mk X w rb ov hs row nd (fun x hx => (ho x hx).keep (fun _ _ => rfl) (fun b hb1 _ => ⟨rfl, fun e => hb1 ?_⟩)) kd (fun b hb1 e => ex b hb1 (Or.inl e)) (fun b hb1 => exlt b (Or.inl hb1))
 rcases e with e | e
 ·exact Or.inl (Or.inl e)
 ·exact Or.inr e
theorem ST.side [Ex] {w w' : World} {rb : Nat} {ov : Value} {hs : List HC} (h : ST w rb ov hs) (hb : But (fun b => Ex.E b) w w') : ST w' rb ov hs := by
 have key : ∀ b ∈ muts ov hs, w'.heap[b]? = w.heap[b]? := fun b hb' => hb.block b (h.lt b hb').2 (h.ex b hb')
 exact ⟨own_keep h.row fun b hb' => key b (mem_mutsO hb'), h.nd, fun x hx => (h.ho x hx).keep (fun b hb' => key b (mem_muts hx hb')) (fun b hb1 hlt => ⟨hb.block b hlt (fun e => hb1 (Or.inl e)), hb1⟩), h.kd, h.ex, fun b hb' => Nat.lt_of_lt_of_le (h.exlt b hb') hb.size⟩
theorem JR.add {X : Ex} {W : World} {l : List UInt8} {v : Value} {lm : Nat → Int} {rb : Nat} {s : SS} {ov : Value} {hs : List HC} {w w' : World} (h : @JR X W l v lm rb s ov hs w) (hb : Below w.heap.size w w') (B : Nat → Prop) (hB : ∀ b, B b → w.heap.size ≤ b ∧ b < w'.heap.size) : @JR (exAdd X B) W l v lm rb s ov hs w' :=
 @JR.mk (exAdd X B) W l v lm rb s ov hs w' (h.rd.below hb) (h.st.add hb B hB) h.eq h.sn (vb_t h.bel hb) h.lo h.le h.n1 h.n2 h.n3
theorem JR.less {X : Ex} {W : World} {l : List UInt8} {v : Value} {lm : Nat → Int} {rb : Nat} {s : SS} {ov : Value} {hs : List HC} {w : World} {B : Nat → Prop} (h : @JR (exAdd X B) W l v lm rb s ov hs w) : @JR X W l v lm rb s ov hs w := by
 obtain ⟨rd, st, eq, sn, bel, lo, le, n1, n2, n3⟩ := h
 exact @JR.mk X W l v lm rb s ov hs w rd (ST.less st) eq sn bel lo le n1 n2 n3
theorem JR.side [Ex] {W : World} {l : List UInt8} {v : Value} {lm : Nat → Int} {rb : Nat} {s : SS} {ov : Value} {hs : List HC} {w w' : World} (h : JR W l v lm rb s ov hs w) (hb : But (fun b => Ex.E b) w w') (hrb : ∀ b, Ex.E b → rb < b) : JR W l v lm rb s ov hs w' := by
 have he : w'.heap[rb]? = w.heap[rb]? := hb.block rb h.rd.lt (fun e => by have := hrb rb e; omega)
 refine ⟨fun j hj => ⟨(World.cell?_of_block (w := w) (w' := w') he).trans (h.rd j hj).1, by have := (h.rd j hj).2; unfold World.frozen? at this ⊢; rw [he]; exact this⟩, h.st.side hb, h.eq, h.sn, ?_, h.lo, h.le, h.n1, h.n2, h.n3⟩
 refine h.bel.trans ⟨hb.os, hb.tape, hb.output, hb.size, fun k hk => hb.block k (by have := h.rd.lt; have := h.lo; omega) (fun e => ?_)⟩
 have := hrb k e
 have := h.lo
 omega
def StepR {α : Type} (x : Except Nat α) (ok : α → Ending → World → Prop) (rb : Nat) (w : World) (r : Ending) (w' : World) : Prop :=
 match x with
 | .ok a => ok a r w'
 | .error n => r = stopE 3 (n : Nat) ∧ Below rb w w'
theorem but_rb {rb : Nat} {w w' : World} (h : But (· = rb) w w') (hlt : rb < w.heap.size) : Below rb w w' := ⟨h.os, h.tape, h.output, h.size, fun k hk => h.block k (by omega) (by omega)⟩
theorem JR.take [Ex] {W : World} {l : List UInt8} {v : Value} {lm : Nat → Int} {rb : Nat} {s : SS} {ov : Value} {hs : List HC} {w w' : World} (hJ : JR W l v lm rb s ov hs w) (hb : But (· = rb) w w') (i : Nat) (hr : Rd w' rb (upd (RF v lm s.i ov s.dp s.ps) 1 (.int .i64 (i : Nat)))) (hi : s.i ≤ i) (hl : i ≤ l.length) : JR W l v lm rb { s with i := i } ov hs w' := by
 rw [RF_i] at hr
 exact ⟨hr, hJ.st.rb hb, hJ.eq, hJ.sn, hJ.bel.trans ((but_rb hb hJ.rd.lt).mono hJ.lo), hJ.lo, hl, Nat.le_trans hJ.n1 hi, fun h hh => ⟨Nat.le_trans (hJ.n2 h hh).1 hi, Nat.le_trans (hJ.n2 h hh).2 hi⟩, Nat.le_trans hJ.n3 hi⟩
theorem takeL_ok {fs : ByteArray} {l : List UInt8} {i : Nat} {t : Lx.Tok} (h : takeS fs l i = .ok t) : i < t.to ∧ t.to ≤ l.length ∧ t.text.length ≤ l.length := by
 unfold takeS takeL at h
 split at h
 ·rename_i hh
  have hlt : Lx.pass l Lx.blankB i < l.length := Classical.byContradiction fun hc => by rw [Lx.hasAt_out _ hc] at hh; cases hh
  have hge := Lx.pass_ge l Lx.blankB i
  unfold Lx.nextL at h
  have hge2 := Lx.pass_ge l Lx.blankB (Lx.pass l Lx.blankB i)
  have hle2 : Lx.pass l Lx.blankB (Lx.pass l Lx.blankB i) ≤ l.length := Lx.pass_le (by omega)
  have h3 := Lx.readL_text hle2 h
  rcases Lx.readL_le hle2 h with ⟨h1, h2⟩ | ⟨h1, h2⟩
  ·rw [Lx.pass_stop (Lx.pass_end l Lx.blankB i)] at h2
   omega
  ·exact ⟨by omega, h2, h3⟩
 ·cases h
theorem take_jr [Ex] {W : World} {l : List UInt8} {v : Value} {lm : Nat → Int} {rb : Nat} {s : SS} {ov : Value} {hs : List HC} {w : World} (hE : Lx.Env W) (hB : Lx.Byt W v l) (hl : l.length ≤ 1048576) (hJ : JR W l v lm rb s ov hs w) (fs : ByteArray) :
  Calls Tryz.prog 51 #[.pointer (some ⟨rb, 0, none⟩), .string fs] w (StepR (takeS fs l s.i) (fun t r w' => r = .returned (Lx.tokV t) ∧ JR W l v lm rb { s with i := t.to } ov hs w' ∧ But (· = rb) w w' ∧ (s.i < t.to ∧ t.to ≤ l.length ∧ t.text.length ≤ l.length)) rb w) := by
 refine (take_any l v W w rb s.i (RF v lm s.i ov s.dp s.ps) fs hE hB (by omega) hJ.bel hJ.lo hJ.rd rfl rfl hJ.le).mono fun r w' hr => ?_
 obtain ⟨hb, hr⟩ := hr
 have e : takeL fs l (Lx.pass l Lx.blankB s.i) = takeS fs l s.i := rfl
 rw [e] at hr
 cases ht : takeS fs l s.i with
 | error n =>
  rw [ht] at hr
  exact ⟨hr, but_rb hb hJ.rd.lt⟩
 | ok t =>
  rw [ht] at hr
  obtain ⟨h1, h2⟩ := hr
  have h3 := takeL_ok ht
  exact ⟨h1, hJ.take hb t.to h2 (by omega) h3.2.1, hb, h3⟩
theorem lastS_of [Ex] {W : World} {l : List UInt8} {v : Value} {lm : Nat → Int} {rb : Nat} {s : SS} {ov : Value} {hs0 : List HC} {h : HC} {w : World} (hJ : JR W l v lm rb s ov (hs0 ++ [h]) w) : lastS s = (h.k, h.vs.map (·.1), h.ks) := by unfold lastS; rw [hJ.eq]; simp
theorem JR.keep [Ex] {W : World} {l : List UInt8} {v : Value} {lm : Nat → Int} {rb : Nat} {s : SS} {ov : Value} {hs0 : List HC} {h : HC} {kv mv : Value} {key : ByteArray} {w w' : World} (hJ : JR W l v lm rb s ov (hs0 ++ [h]) w) (hst : ST w' rb ov (hs0 ++ [hkey h kv mv key])) (hm : Mr rb ov (hs0 ++ [h]) w ov (hs0 ++ [hkey h kv mv key]) w') (hn : h.ks.length < s.i) : JR W l v lm rb (addK key s) ov (hs0 ++ [hkey h kv mv key]) w' := by
 refine ⟨hm.rd hJ.rd, hst, ?_, fun x hx => ?_, hJ.bel.trans ((hm.mv.below hJ.st hJ.rd.lt).mono hJ.lo), hJ.lo, hJ.le, ?_, fun x hx => ?_, hJ.n3⟩
 ·show s.hs.dropLast ++ [((lastS s).1, (lastS s).2.1, (lastS s).2.2 ++ [key])] = _
  rw [lastS_of hJ, hJ.eq]
  simp [hkey]
 ·rcases List.mem_append.1 hx with hx | hx
  ·exact hJ.sn x (List.mem_append_left _ hx)
  ·obtain rfl : x = hkey h kv mv key := by simpa using hx
   show h.sn ++ [key] = h.ks ++ [key]
   rw [hJ.sn h (by simp)]
 ·have := hJ.n1; simp at this ⊢; exact this
 ·rcases List.mem_append.1 hx with hx | hx
  ·exact hJ.n2 x (List.mem_append_left _ hx)
  ·obtain rfl : x = hkey h kv mv key := by simpa using hx
   refine ⟨(hJ.n2 h (by simp)).1, ?_⟩
   show (h.ks ++ [key]).length ≤ s.i
   simp; omega
end Go.Proofs.YtfoehebnmommfaaGreatDoor

namespace Go.Proofs.YtfoehebnmommfaaGreatDoor
open Go.RowKit Go.Maps

theorem JR.side1 [Ex] {W : World} {l : List UInt8} {v : Value} {lm : Nat → Int} {rb : Nat} {s : SS} {ov : Value} {hs : List HC} {w w' : World} (h : JR W l v lm rb s ov hs w) {c : Nat} (hc : Ex.E c) (hlt : rb < c) (hb : But (· = c) w w') : JR W l v lm rb s ov hs w' := by
 have he : w'.heap[rb]? = w.heap[rb]? := hb.block rb h.rd.lt (by omega)
 refine ⟨fun j hj => ⟨(World.cell?_of_block (w := w) (w' := w') he).trans (h.rd j hj).1, by have := (h.rd j hj).2; unfold World.frozen? at this ⊢; rw [he]; exact this⟩, h.st.side (hb.mono fun b e => by cases e; exact hc), h.eq, h.sn, ?_, h.lo, h.le, h.n1, h.n2, h.n3⟩
 exact h.bel.trans ⟨hb.os, hb.tape, hb.output, hb.size, fun k hk => hb.block k (by have := h.rd.lt; have := h.lo; omega) (by have := h.lo; omega)⟩
theorem JR.bl [Ex] {W : World} {l : List UInt8} {v : Value} {lm : Nat → Int} {rb : Nat} {s : SS} {ov : Value} {hs : List HC} {w w' : World} (h : JR W l v lm rb s ov hs w) (hb : Below w.heap.size w w') : JR W l v lm rb s ov hs w' := ⟨h.rd.below hb, h.st.bel hb, h.eq, h.sn, vb_t h.bel hb, h.lo, h.le, h.n1, h.n2, h.n3⟩
theorem Mv.new {rb : Nat} {ov ov1 : Value} {hs hs1 : List HC} {w w1 w2 : World} (h : Mv rb ov hs w ov1 hs1 w1) {c : Nat} (hb : But (· = c) w1 w2) (hc : w.heap.size ≤ c) : Mv rb ov hs w ov1 hs1 w2 :=
 ⟨⟨hb.os.trans h.but.os, hb.tape.trans h.but.tape, hb.output.trans h.but.output, Nat.le_trans h.but.size hb.size, fun k hk hx => (hb.block k (Nat.lt_of_lt_of_le hk h.but.size) (by omega)).trans (h.but.block k hk hx)⟩, h.sub⟩
theorem set4_but (w : World) (c : Nat) (a0 a1 a2 a3 : Value) : But (· = c) w ((((w.setCell ⟨c, 0, none⟩ a0).setCell ⟨c, 1, none⟩ a1).setCell ⟨c, 2, none⟩ a2).setCell ⟨c, 3, none⟩ a3) :=
 ((((But.refl _ w).setr a0).setr a1).setr a2).setr a3
set_option maxRecDepth 100000 in
set_option maxHeartbeats 3200000 in
theorem valueOf_run [Ex] (W : World) (l : List UInt8) (v : Value) (lm : Nat → Int) (rb : Nat) (s : SS) (ob n cap : Nat) (hs0 : List HC) (h : HC) (w : World) (t : Lx.Tok) (hE : Lx.Env W) (hB : Lx.Byt W v l) (hJ0 : ∀ A, Below w.heap.size w A → w.heap.size + 1 < A.heap.size → JR W l v lm rb s (.slice (some ⟨ob, 0, none⟩) n cap) (hs0 ++ [h]) A) (hst0 : ∀ b ∈ muts (.slice (some ⟨ob, 0, none⟩) n cap) (hs0 ++ [h]), b < w.heap.size) (hcl : rb < w.heap.size) (hEx : Ex.E (w.heap.size + 1)) (hl : l.length ≤ 1048576) (ht : t.text.length ≤ l.length) (hn : h.ks.length < s.i) :
  Calls Tryz.prog 79 #[.pointer (some ⟨rb, 0, none⟩), Lx.tokV t] w (StepR (valueOfS l t s) (fun x r w' => r = .returned (Lx.tokV x.1) ∧ ∃ kv mv, JR W l v lm rb x.2 (.slice (some ⟨ob, 0, none⟩) n cap) (hs0 ++ [hkey h kv mv (txtB t)]) w' ∧ Mv rb (.slice (some ⟨ob, 0, none⟩) n cap) (hs0 ++ [h]) w (.slice (some ⟨ob, 0, none⟩) n cap) (hs0 ++ [hkey h kv mv (txtB t)]) w') rb w) := by
 obtain ⟨P, hP⟩ : ∃ P : Ending → World → Prop, P = StepR (valueOfS l t s) (fun x r w' => r = .returned (Lx.tokV x.1) ∧ ∃ kv mv, JR W l v lm rb x.2 (.slice (some ⟨ob, 0, none⟩) n cap) (hs0 ++ [hkey h kv mv (txtB t)]) w' ∧ Mv rb (.slice (some ⟨ob, 0, none⟩) n cap) (hs0 ++ [h]) w (.slice (some ⟨ob, 0, none⟩) n cap) (hs0 ++ [hkey h kv mv (txtB t)]) w') rb w := ⟨_, rfl⟩
 rw [← hP]
 have HP := hid_intro hP
 obtain ⟨A, hA⟩ : ∃ A, (w.alloc (.cells #[.int .i64 (t.kind : Int), .string ⟨t.text.toArray⟩, .int .i64 (t.fr : Int), .int .i64 (t.to : Int)] 50)).alloc (.cells #[.int .i64 0, .string ⟨#[]⟩, .int .i64 0, .int .i64 0] 50) = A := ⟨_, rfl⟩
 have HBA : Hid (Below w.heap.size w A) := hid_intro (hA ▸ vb_a (vb_a (Below.refl _ _) _) _)
 have HVA : Hid (Bj A (w.heap.size + 1) #[.int .i64 0, .string ⟨#[]⟩, .int .i64 0, .int .i64 0]) := hid_intro (hA ▸ Bj.new' _ _ _ _ (by simp))
 have hJ := hJ0 A HBA.out (HVA.out.lt)
 have hlast := lastS_of hJ
 have hnn : n = hs0.length + 1 := by
  obtain ⟨_, _, e, _⟩ := own_shape hJ.st.row
  injection e with _ e _
  simpa using e
 subst hnn
 have hN0 : hs0.length ≤ 1048576 := by have h1 := hJ.n1; have := hJ.le; simp at h1; omega
 have HTA : Hid (Bj A w.heap.size #[.int .i64 (t.kind : Int), .string ⟨t.text.toArray⟩, .int .i64 (t.fr : Int), .int .i64 (t.to : Int)]) := hid_intro (hA ▸ (Bj.new _ _ _).al _)
 have hsz : (txtB t).size ≤ 1048576 := by show t.text.toArray.size ≤ _; simp; omega
 have HIN : Hid (∀ w', Below A.heap.size A w' → Calls Tryz.prog 52 #[.pointer (some ⟨rb, 0, none⟩)] w' fun r w2 => r = .returned (.pointer (some ⟨ob, hs0.length * 4, none⟩)) ∧ Below A.heap.size A w2) := hid_intro (fun w' hb => (innermost_any rb ob hs0.length cap _ w' (hJ.rd.below hb) rfl hN0).mono fun r w2 hr => ⟨hr.1, vb_t hb hr.2⟩)
 have HKP : Hid (∀ w', Below A.heap.size A w' → Calls Tryz.prog 104 #[.pointer (some ⟨ob, hs0.length * 4, none⟩), .string (txtB t)] w' fun r w2 => (inK (txtB t) h.ks = true ∧ r = .returned (.bool false) ∧ Below A.heap.size A w2) ∨ (inK (txtB t) h.ks = false ∧ r = .returned (.bool true) ∧ ∃ kv mv, ST w2 rb (.slice (some ⟨ob, 0, none⟩) (hs0.length + 1) cap) (hs0 ++ [hkey h kv mv (txtB t)]) ∧ Mr rb (.slice (some ⟨ob, 0, none⟩) (hs0.length + 1) cap) (hs0 ++ [h]) A (.slice (some ⟨ob, 0, none⟩) (hs0.length + 1) cap) (hs0 ++ [hkey h kv mv (txtB t)]) w2)) := hid_intro (fun w' hb => by
  have hst := hJ.st.bel hb
  refine (keep_any rb ob _ cap hs0 h (txtB t) w' hst hsz (by have := (hJ.n2 h (by simp)).2; have := hJ.le; omega) (hJ.sn h (by simp)) (Nat.lt_of_lt_of_le hJ.rd.lt hb.size)).mono fun r w2 hr => ?_
  rcases hr with ⟨h1, h2, h3⟩ | ⟨h1, h2, kv, mv, h3, h4⟩
  ·exact Or.inl ⟨h1, h2, vb_t hb h3⟩
  ·exact Or.inr ⟨h1, h2, kv, mv, h3, (Mr.bel (Mr.refl _ _ _ _) hb).trans h4⟩)
 have HS : Hid (∀ w', Below A.heap.size A w' → w'.cell? ⟨w.heap.size, 1, none⟩ = some (.string (txtB t))) := hid_intro (fun w' hb => (HTA.out.bel hb).cell 1)
 cases hin : inK (txtB t) h.ks
 ·have HK1 : Hid (∀ w', Below A.heap.size A w' → Calls Tryz.prog 104 #[.pointer (some ⟨ob, hs0.length * 4, none⟩), .string (txtB t)] w' fun r w2 => r = .returned (.bool true) ∧ ∃ kv mv, ST w2 rb (.slice (some ⟨ob, 0, none⟩) (hs0.length + 1) cap) (hs0 ++ [hkey h kv mv (txtB t)]) ∧ Mr rb (.slice (some ⟨ob, 0, none⟩) (hs0.length + 1) cap) (hs0 ++ [h]) A (.slice (some ⟨ob, 0, none⟩) (hs0.length + 1) cap) (hs0 ++ [hkey h kv mv (txtB t)]) w2) := hid_intro (fun w' hb => (HKP.out w' hb).mono fun r w2 hr => by
   rcases hr with ⟨h1, _⟩ | ⟨_, h2, h3⟩
   ·rw [hin] at h1; cases h1
   ·exact ⟨h2, h3⟩)
  have HV : Hid (valueOfS l t s = match takeS sgD l s.i with
   | .error e => .error e
   | .ok t1 => match takeS fov l t1.to with
    | .error e => .error e
    | .ok t2 => .ok (t2, { addK (txtB t) s with i := t2.to })) := hid_intro (by unfold valueOfS; rw [hlast, hin]; rfl)
  have HTK := hid_intro (fun (s' : SS) (hs' : List HC) (w' : World) (hj : JR W l v lm rb s' (.slice (some ⟨ob, 0, none⟩) (hs0.length + 1) cap) hs' w') fs => take_jr hE hB hl hj fs)
  have HMX : Hid (∀ b, w.heap.size ≤ b → ¬ wX rb (.slice (some ⟨ob, 0, none⟩) (hs0.length + 1) cap) (hs0 ++ [h]) b) := hid_intro (fun b hb e => by
   rcases e with e | e
   ·omega
   ·have := hst0 b e; omega)
  have HS4 : Hid (∀ w' kv mv, Mr rb (.slice (some ⟨ob, 0, none⟩) (hs0.length + 1) cap) (hs0 ++ [h]) A (.slice (some ⟨ob, 0, none⟩) (hs0.length + 1) cap) (hs0 ++ [hkey h kv mv (txtB t)]) w' → w'.cell? ⟨w.heap.size, 1, none⟩ = some (.string (txtB t)) ∧ Bj w' (w.heap.size + 1) #[.int .i64 0, .string ⟨#[]⟩, .int .i64 0, .int .i64 0]) := hid_intro (fun w' kv mv hm => ⟨(HTA.out.but hm.mv.but (HMX.out _ (Nat.le_refl _))).cell 1, HVA.out.but hm.mv.but (HMX.out _ (Nat.le_succ _))⟩)
  have HKJ : Hid (∀ w' kv mv, ST w' rb (.slice (some ⟨ob, 0, none⟩) (hs0.length + 1) cap) (hs0 ++ [hkey h kv mv (txtB t)]) → Mr rb (.slice (some ⟨ob, 0, none⟩) (hs0.length + 1) cap) (hs0 ++ [h]) A (.slice (some ⟨ob, 0, none⟩) (hs0.length + 1) cap) (hs0 ++ [hkey h kv mv (txtB t)]) w' → JR W l v lm rb (addK (txtB t) s) (.slice (some ⟨ob, 0, none⟩) (hs0.length + 1) cap) (hs0 ++ [hkey h kv mv (txtB t)]) w' ∧ Mr rb (.slice (some ⟨ob, 0, none⟩) (hs0.length + 1) cap) (hs0 ++ [h]) w (.slice (some ⟨ob, 0, none⟩) (hs0.length + 1) cap) (hs0 ++ [hkey h kv mv (txtB t)]) w') := hid_intro (fun w' kv mv h1 h2 => by
   exact ⟨hJ.keep h1 h2 hn, (Mr.bel (Mr.refl _ _ _ _) HBA.out).trans h2⟩)
  have hc := Below.refl A.heap.size A
  have hne : w.heap.size + 1 ≠ rb := by omega
  have HST0 := hid_intro hJ.st
  unfold Lx.tokV
  clear hP hJ hJ0 hst0 hE hB hl ht hn hlast hin HKP hsz
  go_enter Tryz.func79, Tryz.ntmps79
  go_wp2_with fail
  go_region_held3 (fun w' => w'.cell? ⟨w.heap.size, 1, none⟩ = some (.string (txtB t))) (first | (refine (HS4.out _ kv mv ?_).1; with_reducible repeat (first | exact hmv4)) | (refine HS.out _ ?_; with_reducible repeat (first | exact hc | refine vb_d ?_)) | fail) (first | (go_at_call 52; refine (HIN.out _ ?_).mono ?_; (with_reducible repeat (first | exact hc | refine vb_d ?_)); rintro r w3 ⟨rfl, hc⟩) | (go_at_call 104; refine (HK1.out _ ?_).mono ?_; (with_reducible repeat (first | exact hc | refine vb_d ?_)); rintro r w4 ⟨rfl, kv, mv, hst4, hmv4⟩) | fail)
  all_goals
   obtain ⟨hj4, hm4⟩ := HKJ.out _ _ _ hst4 hmv4
   have HB4 := hid_intro (HS4.out _ _ _ hmv4).2
   have hl4 : rb < w4.heap.size := hj4.rd.lt
   have hbw4 : Below rb w w4 := (HBA.out.mono (Nat.le_of_lt hcl)).trans (hmv4.mv.below HST0.out (Nat.lt_of_lt_of_le hcl HBA.out.size))
   have hc4 := Below.refl w4.heap.size w4
   have HJ4 := hid_intro hj4
   have HM4 := hid_intro hm4
   clear HKJ HS4 HK1 HIN HS HST0 hst4 hmv4 hj4 hm4 HTA HVA hA
   cases h1 : takeS sgD l s.i with
   | error e =>
    have HT : Hid (∀ fs w', fs = sgD → Below w4.heap.size w4 w' → Calls Tryz.prog 51 #[.pointer (some ⟨rb, 0, none⟩), .string fs] w' (fun r w2 => r = stopE 3 (e : Nat) ∧ Below rb w4 w2)) := hid_intro (fun fs w' hfs hb => by
     subst hfs
     refine (HTK.out _ _ w' (HJ4.out.bl hb) sgD).mono fun r w2 hr => ?_
     have e1 : takeS sgD l (addK (txtB t) s).i = .error e := h1
     rw [e1] at hr
     exact ⟨hr.1, (hb.mono (Nat.le_of_lt hl4)).trans hr.2⟩)
    rw [h1] at HV
    clear HTK
    go_wp2_with (go_at_call 51; refine (HT.out _ _ ?_ ?_).mono ?_; exact rfl; (with_reducible repeat (first | exact hc4 | refine vb_d ?_)); rintro r w5 ⟨rfl, hb5⟩; unfold stopE)
    rw [HP.out, HV.out]
    exact ⟨rfl, rfl, hbw4.trans hb5⟩
   | ok t1 =>
    have HT : Hid (∀ fs w', fs = sgD → Below w4.heap.size w4 w' → Calls Tryz.prog 51 #[.pointer (some ⟨rb, 0, none⟩), .string fs] w' (fun r w2 => r = .returned (Lx.tokV t1) ∧ JR W l v lm rb { addK (txtB t) s with i := t1.to } (.slice (some ⟨ob, 0, none⟩) (hs0.length + 1) cap) (hs0 ++ [hkey h kv mv (txtB t)]) w2 ∧ But (· = rb) w4 w2)) := hid_intro (fun fs w' hfs hb => by
     subst hfs
     refine (HTK.out _ _ w' (HJ4.out.bl hb) sgD).mono fun r w2 hr => ?_
     have e1 : takeS sgD l (addK (txtB t) s).i = .ok t1 := h1
     rw [e1] at hr
     exact ⟨hr.1, hr.2.1, (But.ofBelow hb).trans hr.2.2.1⟩)
    rw [h1] at HV
    cases h2 : takeS fov l t1.to with
    | error e =>
     have HT2 : Hid (∀ fs w5 w', fs = fov → JR W l v lm rb { addK (txtB t) s with i := t1.to } (.slice (some ⟨ob, 0, none⟩) (hs0.length + 1) cap) (hs0 ++ [hkey h kv mv (txtB t)]) w5 → Below w5.heap.size w5 w' → Calls Tryz.prog 51 #[.pointer (some ⟨rb, 0, none⟩), .string fs] w' (fun r w2 => r = stopE 3 (e : Nat) ∧ Below rb w5 w2)) := hid_intro (fun fs w5 w' hfs hj hb => by
      subst hfs
      refine (HTK.out _ _ w' (hj.bl hb) fov).mono fun r w2 hr => ?_
      rw [h2] at hr
      exact ⟨hr.1, (hb.mono (Nat.le_of_lt hj.rd.lt)).trans hr.2⟩)
     simp only [h2] at HV
     clear HTK
     go_wp2_with (first | (go_at_call 51; refine (HT.out _ _ ?_ ?_).mono ?_; exact rfl; (with_reducible repeat (first | exact hc4 | refine vb_d ?_)); rintro r w5 ⟨rfl, hj5, hb5⟩; have hc5 := Below.refl w5.heap.size w5) | (go_at_call 51; refine (HT2.out _ w5 _ ?_ hj5 ?_).mono ?_; exact rfl; (with_reducible repeat (first | exact hc5 | refine vb_d ?_)); rintro r w6 ⟨rfl, hb6⟩; unfold stopE))
     rw [HP.out, HV.out]
     exact ⟨rfl, rfl, (hbw4.trans (but_rb hb5 hl4)).trans hb6⟩
    | ok t2 =>
     have HT2 : Hid (∀ fs w5 w', fs = fov → JR W l v lm rb { addK (txtB t) s with i := t1.to } (.slice (some ⟨ob, 0, none⟩) (hs0.length + 1) cap) (hs0 ++ [hkey h kv mv (txtB t)]) w5 → Below w5.heap.size w5 w' → Calls Tryz.prog 51 #[.pointer (some ⟨rb, 0, none⟩), .string fs] w' (fun r w2 => r = .returned (Lx.tokV t2) ∧ JR W l v lm rb { addK (txtB t) s with i := t2.to } (.slice (some ⟨ob, 0, none⟩) (hs0.length + 1) cap) (hs0 ++ [hkey h kv mv (txtB t)]) w2 ∧ But (· = rb) w5 w2)) := hid_intro (fun fs w5 w' hfs hj hb => by
      subst hfs
      refine (HTK.out _ _ w' (hj.bl hb) fov).mono fun r w2 hr => ?_
      rw [h2] at hr
      exact ⟨hr.1, hr.2.1, (But.ofBelow hb).trans hr.2.2.1⟩)
     simp only [h2] at HV
     have HZ : Hid (∀ w5 w6, But (· = rb) w4 w5 → But (· = rb) w5 w6 → Bj w6 (w.heap.size + 1) #[.int .i64 0, .string ⟨#[]⟩, .int .i64 0, .int .i64 0]) := hid_intro (fun w5 w6 h5 h6 => (HB4.out.but h5 hne).but h6 hne)
     clear HTK
     go_wp2_with (first | (go_at_call 51; refine (HT.out _ _ ?_ ?_).mono ?_; exact rfl; (with_reducible repeat (first | exact hc4 | refine vb_d ?_)); rintro r w5 ⟨rfl, hj5, hb5⟩; have hc5 := Below.refl w5.heap.size w5) | (go_at_call 51; refine (HT2.out _ w5 _ ?_ hj5 ?_).mono ?_; exact rfl; (with_reducible repeat (first | exact hc5 | refine vb_d ?_)); rintro r w6 ⟨rfl, hj6, hb6⟩; unfold Lx.tokV; obtain ⟨z0, z1, z2, z3⟩ := (HZ.out _ _ hb5 hb6).z4; obtain ⟨y0, y1, y2, y3⟩ := (HZ.out _ _ hb5 hb6).c4))
     all_goals
      refine bodyPost_ret (v := Lx.tokV t2) (by simp [results, Tryz.results79, go_sem, Lx.tokV, y0, y1, y2, y3]) rfl ?_
      rw [HP.out, HV.out]
      have hb7 := set4_but w6 (w.heap.size + 1) (.int .i64 (t2.kind : Int)) (.string ⟨t2.text.toArray⟩) (.int .i64 (t2.fr : Int)) (.int .i64 (t2.to : Int))
      exact ⟨rfl, kv, mv, hj6.side1 hEx (by omega) hb7, Mv.new ((HM4.out.mv.trans (Mv.rb hb5)).trans (Mv.rb hb6)) hb7 (by omega)⟩
 ·have HV : Hid (valueOfS l t s = .error t.to) := hid_intro (by unfold valueOfS; rw [hlast, if_pos hin])
  have HK1 : Hid (∀ w', Below A.heap.size A w' → Calls Tryz.prog 104 #[.pointer (some ⟨ob, hs0.length * 4, none⟩), .string (txtB t)] w' fun r w2 => r = .returned (.bool false) ∧ Below A.heap.size A w2) := hid_intro (fun w' hb => (HKP.out w' hb).mono fun r w2 hr => by
   rcases hr with ⟨_, h2, h3⟩ | ⟨h1, _⟩
   ·exact ⟨h2, h3⟩
   ·rw [hin] at h1; cases h1)
  have cm := fun w => malformed_any (t.to : Int) w
  have hc := Below.refl A.heap.size A
  unfold Lx.tokV
  clear hP hJ hJ0 hst0 hE hB hl ht hn hlast hin HKP hsz
  go_enter Tryz.func79, Tryz.ntmps79
  go_wp2_with fail
  go_region_held3 (fun w' => w'.cell? ⟨w.heap.size, 1, none⟩ = some (.string (txtB t))) (first | (refine HS.out _ ?_; with_reducible repeat (first | exact hc | refine vb_d ?_)) | fail) (first | (go_at_call 52; refine (HIN.out _ ?_).mono ?_; (with_reducible repeat (first | exact hc | refine vb_d ?_)); rintro r w3 ⟨rfl, hc⟩) | (go_at_call 104; refine (HK1.out _ ?_).mono ?_; (with_reducible repeat (first | exact hc | refine vb_d ?_)); rintro r w3 ⟨rfl, hc⟩) | fail)
  all_goals
   obtain ⟨t0, t1, t2, t3⟩ := (HTA.out.bel hc).c4
   go_wp2_with (go_at_call 83; refine (cm _).mono ?_; rintro r w5 ⟨rfl, hb5⟩)
   rw [HP.out, HV.out]
   exact ⟨rfl, rfl, (vb_t (vb_t HBA.out hc) hb5).mono (Nat.le_of_lt hcl)⟩
theorem valueOf_any [X : Ex] (W : World) (l : List UInt8) (v : Value) (lm : Nat → Int) (rb : Nat) (s : SS) (ob n cap : Nat) (hs0 : List HC) (h : HC) (w : World) (t : Lx.Tok) (hE : Lx.Env W) (hB : Lx.Byt W v l) (hJ : JR W l v lm rb s (.slice (some ⟨ob, 0, none⟩) n cap) (hs0 ++ [h]) w) (hl : l.length ≤ 1048576) (ht : t.text.length ≤ l.length) (hn : h.ks.length < s.i) :
  Calls Tryz.prog 79 #[.pointer (some ⟨rb, 0, none⟩), Lx.tokV t] w (StepR (valueOfS l t s) (fun x r w' => r = .returned (Lx.tokV x.1) ∧ ∃ kv mv, JR W l v lm rb x.2 (.slice (some ⟨ob, 0, none⟩) n cap) (hs0 ++ [hkey h kv mv (txtB t)]) w' ∧ Mv rb (.slice (some ⟨ob, 0, none⟩) n cap) (hs0 ++ [h]) w (.slice (some ⟨ob, 0, none⟩) n cap) (hs0 ++ [hkey h kv mv (txtB t)]) w') rb w) := by
 refine (@valueOf_run (exAdd X (fun b => b = w.heap.size + 1)) W l v lm rb s ob n cap hs0 h w t hE hB (fun A hA hlt => hJ.add hA _ (fun b e => by omega)) (fun b hb => (hJ.st.lt b hb).2) hJ.rd.lt (Or.inr rfl) hl ht hn).mono fun r w' hr => ?_
 cases hv : valueOfS l t s with
 | error e => rw [hv] at hr; exact hr
 | ok x =>
  rw [hv] at hr
  obtain ⟨h1, kv, mv, h2, h3⟩ := hr
  exact ⟨h1, kv, mv, JR.less h2, h3⟩
end Go.Proofs.YtfoehebnmommfaaGreatDoor
