/-
  What uri.Text answers: the parts put together, each with its mark. Conditions: at most 2^46 bytes together.
-/
import Derived.Test.YtgmigdfkdioalaaUU11
import Derived.Test.YtgmigdfkdioalaaB0
import Derived.Test.YtgmigdfkdioalaaShelf
namespace Go.Proofs.Ytgmigdfkdioalaa
open Go.RowKit
attribute [local go_sem] setCell_drewN alloc_drewN

/-- A builder in block B, all of its own from there on, that holds the bytes l. -/
def BB (B : Nat) (l : List UInt8) (w : World) : Prop := Lib.IsBuilderF 51 5 B B (Lib.byteCells l) w ∧ B ≤ w.heap.size
theorem bb_fresh (w : World) (B : Nat) (hB : w.heap.size = B) : BB B [] (w.alloc (.cells #[.pointer none, .slice none 0 0] 51)) := by
  subst hB
  exact ⟨Lib.IsBuilderF.of (Lib.fresh_isBuilder _ _ w), by simp⟩
theorem byteCells_append (a b : List UInt8) : Lib.byteCells (a ++ b) = Lib.byteCells a ++ Lib.byteCells b := by simp [Lib.byteCells]
theorem byteCells_len (a : List UInt8) : (Lib.byteCells a).length = a.length := by simp [Lib.byteCells]
theorem wstr (B : Nat) (l : List UInt8) (s : ByteArray) (w : World) (h : BB B l w) (hl : l.length + s.size ≤ 140737488355328) :
    Calls Try.prog 32 #[.pointer (some ⟨B, 0, none⟩), .string s] w fun e w' => e = .returned (.tuple #[.int .i64 s.size, .nilIface]) ∧ BB B (l ++ s.data.toList) w' ∧ Below B w w' := by
  refine (Any.Builder_WriteString_k lays166 extra166 B B (Lib.byteCells l) s w h.1 (by rw [byteCells_len]; exact hl) h.2).mono ?_
  rintro e w' ⟨rfl, h1, h2, _⟩
  exact ⟨rfl, ⟨by rw [byteCells_append]; exact .inr h1, Nat.le_trans h.2 h2.size⟩, h2⟩
theorem bstr (B : Nat) (l : List UInt8) (w : World) (h : BB B l w) :
    Calls Try.prog 33 #[.pointer (some ⟨B, 0, none⟩)] w fun e w' => e = .returned (.string (bs l)) ∧ Below B w w' := by
  refine (Try.Builder_String_any_k B B l w h.1 h.2).mono ?_
  rintro e w' ⟨rfl, _, h2, _⟩
  exact ⟨rfl, h2⟩

set_option maxHeartbeats 800000 in
theorem put_any (t : Bool) (a p b : ByteArray) (B : Nat) (l : List UInt8) (w : World) (h : BB B l w) (hl : l.length + (a.size + p.size + b.size) ≤ 140737488355328) :
    Calls Try.prog 31 #[.bool t, .string a, .string p, .string b, .pointer (some ⟨B, 0, none⟩)] w fun e w' => e = .returned (.tuple #[]) ∧ BB B (l ++ if t then a.data.toList ++ p.data.toList ++ b.data.toList else []) w' ∧ Below B w w' := by
  cases t
  · simp only [Bool.false_eq_true, if_false, List.append_nil]
    go_enter Try.func31, Try.ntmps31
    go_wp2
    go_returns
    exact ⟨rfl, h, Below.refl _ _⟩
  · have a1 := len_of a
    have a2 := len_of p
    have a3 := len_of b
    have h1 := wstr B l a w h (by omega)
    have h2 := fun w' hB => wstr B (l ++ a.data.toList) p w' hB (by rw [List.length_append]; omega)
    have h3 := fun w' hB => wstr B (l ++ a.data.toList ++ p.data.toList) b w' hB (by rw [List.length_append, List.length_append]; omega)
    have e : l ++ (a.data.toList ++ p.data.toList ++ b.data.toList) = l ++ a.data.toList ++ p.data.toList ++ b.data.toList := by simp
    simp only [if_true]
    rw [e]
    clear a1 a2 a3 hl e
    go_enter Try.func31, Try.ntmps31
    go_wp2_with fail
    refine h1.mono ?_
    rintro e w1 ⟨rfl, hB1, hb1⟩
    go_wp2_with fail
    refine (h2 _ hB1).mono ?_
    rintro e w2 ⟨rfl, hB2, hb2⟩
    go_wp2_with fail
    refine (h3 _ hB2).mono ?_
    rintro e w3 ⟨rfl, hB3, hb3⟩
    go_wp2
    go_returns
    exact ⟨rfl, hB3, (hb1.trans hb2).trans hb3⟩

/-- The parts put together. -/
def textL (u : Ur) : List UInt8 :=
  (if !u.sch.isEmpty then u.sch ++ [58] else []) ++ (if u.hA then [47, 47] ++ u.auth else []) ++ u.path ++ (if u.hQ then [63] ++ u.q else []) ++ (if u.hF then [35] ++ u.frag else [])
def usum (u : Ur) : Nat := u.sch.length + u.auth.length + u.path.length + u.q.length + u.frag.length

set_option maxRecDepth 100000 in
set_option maxHeartbeats 1600000 in
theorem text_any (u : Ur) (w : World) (hs : usum u ≤ 70368744177664) :
    Calls Try.prog 13 #[uV u] w fun e w' => e = .returned (.string (bs (textL u))) ∧ Below w.heap.size w w' := by
  obtain ⟨sch, auth, path, q, frag, hA, hQ, hF⟩ := u
  simp only [usum] at hs
  have hmf : ∀ (fn : Fn) (first cap : Array Value) (w : World), (Instr.makeFunc fn first cap).run Try.prog w = .ok (.func fn first cap) w := fun _ _ _ _ => rfl
  have E1 := emp_bs sch
  have E2 := emp_bs path
  obtain ⟨x1, hx1⟩ : ∃ x : List UInt8, x = if !sch.isEmpty then [] ++ sch ++ [58] else [] := ⟨_, rfl⟩
  have n1 : x1.length ≤ sch.length + 2 := by rw [hx1]; split <;> simp
  obtain ⟨x2, hx2⟩ : ∃ x : List UInt8, x = if hA then [47, 47] ++ auth ++ [] else [] := ⟨_, rfl⟩
  have n2 : x2.length ≤ auth.length + 2 := by rw [hx2]; split <;> simp
  obtain ⟨x3, hx3⟩ : ∃ x : List UInt8, x = if !path.isEmpty then [] ++ path ++ [] else [] := ⟨_, rfl⟩
  have n3 : x3.length ≤ path.length + 2 := by rw [hx3]; split <;> simp
  obtain ⟨x4, hx4⟩ : ∃ x : List UInt8, x = if hQ then [63] ++ q ++ [] else [] := ⟨_, rfl⟩
  have n4 : x4.length ≤ q.length + 2 := by rw [hx4]; split <;> simp
  obtain ⟨x5, hx5⟩ : ∃ x : List UInt8, x = if hF then [35] ++ frag ++ [] else [] := ⟨_, rfl⟩
  have n5 : x5.length ≤ frag.length + 2 := by rw [hx5]; split <;> simp
  have HT : Hid (textL ⟨sch, auth, path, q, frag, hA, hQ, hF⟩ = [] ++ x1 ++ x2 ++ x3 ++ x4 ++ x5) := by
    show _ = _
    have pe : x3 = path := by rw [hx3]; cases path <;> simp
    rw [pe, hx1, hx2, hx4, hx5]
    simp [textL]
  have g1 : ∀ B w', BB B ([]) w' → Calls Try.prog 31 #[.bool (!sch.isEmpty), .string ⟨#[]⟩, .string (bs sch), .string ⟨#[58]⟩, .pointer (some ⟨B, 0, none⟩)] w' fun e w2 => e = .returned (.tuple #[]) ∧ BB B ([] ++ x1) w2 ∧ Below B w' w2 := fun B w' hB => by
    have := put_any (!sch.isEmpty) ⟨#[]⟩ (bs sch) ⟨#[58]⟩ B ([]) w' hB (by rw [bs_size]; show ([] : List UInt8).length + (0 + sch.length + 1) ≤ 140737488355328; simp only [List.length_nil]; omega)
    rw [hx1]
    exact this
  have g2 : ∀ B w', BB B ([] ++ x1) w' → Calls Try.prog 31 #[.bool (hA), .string ⟨#[47, 47]⟩, .string (bs auth), .string ⟨#[]⟩, .pointer (some ⟨B, 0, none⟩)] w' fun e w2 => e = .returned (.tuple #[]) ∧ BB B ([] ++ x1 ++ x2) w2 ∧ Below B w' w2 := fun B w' hB => by
    have := put_any (hA) ⟨#[47, 47]⟩ (bs auth) ⟨#[]⟩ B ([] ++ x1) w' hB (by rw [bs_size]; show ([] ++ x1 : List UInt8).length + (2 + auth.length + 0) ≤ 140737488355328; simp only [List.length_append, List.length_nil]; omega)
    rw [hx2]
    exact this
  have g3 : ∀ B w', BB B ([] ++ x1 ++ x2) w' → Calls Try.prog 31 #[.bool (!path.isEmpty), .string ⟨#[]⟩, .string (bs path), .string ⟨#[]⟩, .pointer (some ⟨B, 0, none⟩)] w' fun e w2 => e = .returned (.tuple #[]) ∧ BB B ([] ++ x1 ++ x2 ++ x3) w2 ∧ Below B w' w2 := fun B w' hB => by
    have := put_any (!path.isEmpty) ⟨#[]⟩ (bs path) ⟨#[]⟩ B ([] ++ x1 ++ x2) w' hB (by rw [bs_size]; show ([] ++ x1 ++ x2 : List UInt8).length + (0 + path.length + 0) ≤ 140737488355328; simp only [List.length_append, List.length_nil]; omega)
    rw [hx3]
    exact this
  have g4 : ∀ B w', BB B ([] ++ x1 ++ x2 ++ x3) w' → Calls Try.prog 31 #[.bool (hQ), .string ⟨#[63]⟩, .string (bs q), .string ⟨#[]⟩, .pointer (some ⟨B, 0, none⟩)] w' fun e w2 => e = .returned (.tuple #[]) ∧ BB B ([] ++ x1 ++ x2 ++ x3 ++ x4) w2 ∧ Below B w' w2 := fun B w' hB => by
    have := put_any (hQ) ⟨#[63]⟩ (bs q) ⟨#[]⟩ B ([] ++ x1 ++ x2 ++ x3) w' hB (by rw [bs_size]; show ([] ++ x1 ++ x2 ++ x3 : List UInt8).length + (1 + q.length + 0) ≤ 140737488355328; simp only [List.length_append, List.length_nil]; omega)
    rw [hx4]
    exact this
  have g5 : ∀ B w', BB B ([] ++ x1 ++ x2 ++ x3 ++ x4) w' → Calls Try.prog 31 #[.bool (hF), .string ⟨#[35]⟩, .string (bs frag), .string ⟨#[]⟩, .pointer (some ⟨B, 0, none⟩)] w' fun e w2 => e = .returned (.tuple #[]) ∧ BB B ([] ++ x1 ++ x2 ++ x3 ++ x4 ++ x5) w2 ∧ Below B w' w2 := fun B w' hB => by
    have := put_any (hF) ⟨#[35]⟩ (bs frag) ⟨#[]⟩ B ([] ++ x1 ++ x2 ++ x3 ++ x4) w' hB (by rw [bs_size]; show ([] ++ x1 ++ x2 ++ x3 ++ x4 : List UInt8).length + (1 + frag.length + 0) ≤ 140737488355328; simp only [List.length_append, List.length_nil]; omega)
    rw [hx5]
    exact this
  have g6 := fun B w' hB => bstr B ([] ++ x1 ++ x2 ++ x3 ++ x4 ++ x5) w' hB
  clear hx1 hx2 hx3 hx4 hx5 n1 n2 n3 n4 n5 hs
  generalize hE1 : sch.isEmpty = se at *
  generalize hE2 : path.isEmpty = pe at *
  simp only [uV, uc]
  go_enter Try.func13, Try.ntmps13
  go_wp2_with fail
  refine (g1 _ _ (bb_fresh _ _ (by simp))).mono ?_
  rintro e w1 ⟨rfl, hB1, hb1⟩
  have k1 : Bk w1 w.heap.size #[.string (bs sch), .string (bs auth), .string (bs path), .string (bs q), .string (bs frag), .bool hA, .bool hQ, .bool hF] := Bk.below (Bk.al (Bk.new _ _ _) _) hb1 (by omega)
  have hbel1 : Below w.heap.size w w1 := (bl_a (bl_a (Below.refl _ _) _) _).trans (hb1.mono (by omega))
  clear hb1 g1
  obtain ⟨x0, x1', x2', x3', x4', x5', x6', x7'⟩ := k1.c8
  go_wp2_with fail
  refine (g2 _ _ hB1).mono ?_
  rintro e w2 ⟨rfl, hB2, hb2⟩
  have k2 := k1.below hb2 (by omega)
  have hbel2 := hbel1.trans (hb2.mono (by omega))
  clear hb2 g2 hbel1 hB1 k1 x0 x1' x2' x3' x4' x5' x6' x7'
  obtain ⟨x0, x1', x2', x3', x4', x5', x6', x7'⟩ := k2.c8
  go_wp2_with fail
  refine (g3 _ _ hB2).mono ?_
  rintro e w3 ⟨rfl, hB3, hb3⟩
  have k3 := k2.below hb3 (by omega)
  have hbel3 := hbel2.trans (hb3.mono (by omega))
  clear hb3 g3 hbel2 hB2 k2 x0 x1' x2' x3' x4' x5' x6' x7'
  obtain ⟨x0, x1', x2', x3', x4', x5', x6', x7'⟩ := k3.c8
  go_wp2_with fail
  refine (g4 _ _ hB3).mono ?_
  rintro e w4 ⟨rfl, hB4, hb4⟩
  have k4 := k3.below hb4 (by omega)
  have hbel4 := hbel3.trans (hb4.mono (by omega))
  clear hb4 g4 hbel3 hB3 k3 x0 x1' x2' x3' x4' x5' x6' x7'
  obtain ⟨x0, x1', x2', x3', x4', x5', x6', x7'⟩ := k4.c8
  go_wp2_with fail
  refine (g5 _ _ hB4).mono ?_
  rintro e w5 ⟨rfl, hB5, hb5⟩
  have k5 := k4.below hb5 (by omega)
  have hbel5 := hbel4.trans (hb5.mono (by omega))
  clear hb5 g5 hbel4 hB4 k4 x0 x1' x2' x3' x4' x5' x6' x7'
  go_wp2_with fail
  refine (g6 _ _ hB5).mono ?_
  rintro e w6 ⟨rfl, hb6⟩
  have hbel6 := hbel5.trans (hb6.mono (by omega))
  go_wp2
  go_ret
  exact ⟨r_str (by rw [HT.out]; simp), hbel6⟩
end Go.Proofs.Ytgmigdfkdioalaa
