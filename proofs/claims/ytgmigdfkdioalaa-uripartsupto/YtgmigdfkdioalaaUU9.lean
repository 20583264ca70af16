/-
  A reference's parts as a value; blocks of memory whose cells are known; what uri.parted answers. Conditions: less than 2^32 - 16 bytes.
-/
import Derived.Test.YtgmigdfkdioalaaUU8
import Derived.Lib.Builder
namespace Go.Proofs.Ytgmigdfkdioalaa
open Go.RowKit
attribute [local go_sem] setCell_drewN alloc_drewN

/-- A block of a struct's cells. -/
def Bk (w : World) (b : Nat) (cs : Array Value) : Prop := ∃ T, w.heap[b]? = some (.cells cs T (0, 0))
theorem Bk.lt {w : World} {b : Nat} {cs : Array Value} (h : Bk w b cs) : b < w.heap.size := by
  obtain ⟨T, h⟩ := h
  exact (Array.getElem?_eq_some_iff.1 h).1
theorem Bk.cell {w : World} {b : Nat} {cs : Array Value} (h : Bk w b cs) (i : Nat) : w.cell? ⟨b, i, none⟩ = cs[i]? := by
  obtain ⟨T, h⟩ := h
  exact Lib.cell_of_heap h i
theorem Bk.frz {w : World} {b : Nat} {cs : Array Value} (h : Bk w b cs) (i : Nat) : w.frozen? ⟨b, i, none⟩ = false := by
  obtain ⟨T, h⟩ := h
  exact Lib.frozen_of_heap h i
theorem Bk.below {w w' : World} {b B : Nat} {cs : Array Value} (h : Bk w b cs) (hb : Below B w w') (hlt : b < B) : Bk w' b cs := by
  obtain ⟨T, h⟩ := h
  exact ⟨T, by rw [hb.block b hlt]; exact h⟩
theorem Bk.bel {w w' : World} {b : Nat} {cs : Array Value} (h : Bk w b cs) (hb : Below w.heap.size w w') : Bk w' b cs := h.below hb h.lt
theorem Bk.new (w : World) (cs : Array Value) (T : TypeId) : Bk (w.alloc (.cells cs T)) w.heap.size cs := ⟨T, by show (w.heap.push _)[w.heap.size]? = _; simp⟩
theorem Bk.new' (w : World) (cs : Array Value) (T : TypeId) (b : Nat) (hb : w.heap.size = b) : Bk (w.alloc (.cells cs T)) b cs := hb ▸ Bk.new w cs T
theorem Bk.al {w : World} {b : Nat} {cs : Array Value} (h : Bk w b cs) (o : Obj) : Bk (w.alloc o) b cs := h.bel (bl_a (Below.refl _ _) _)
theorem Bk.dr {w : World} {b : Nat} {cs : Array Value} (h : Bk w b cs) (n : Nat) : Bk (w.drewN n) b cs := h
theorem Bk.dw {w : World} {b : Nat} {cs : Array Value} (h : Bk w b cs) : Bk w.drew b cs := h
theorem Bk.away {w : World} {b : Nat} {cs : Array Value} (h : Bk w b cs) {a : Addr} {v : Value} (hne : b ≠ a.block) : Bk (w.setCell a v) b cs := by
  obtain ⟨T, h⟩ := h
  exact ⟨T, by rw [Below.heap_setCell w a v b hne]; exact h⟩
theorem Bk.set {w : World} {b : Nat} {cs cs' : Array Value} (h : Bk w b cs) (i : Nat) (v : Value) (e : cs.setIfInBounds i v = cs') : Bk (w.setCell ⟨b, i, none⟩ v) b cs' := by
  have hl := h.lt
  obtain ⟨T, h⟩ := h
  refine ⟨T, ?_⟩
  subst e
  obtain ⟨hl', e'⟩ := Array.getElem?_eq_some_iff.1 h
  simp only [World.setCell]
  rw [Array.getElem?_eq_getElem (by rw [Array.size_modify]; exact hl), Array.getElem_modify_self, e']
  rfl
theorem Bk.c8 {w : World} {b : Nat} {x0 x1 x2 x3 x4 x5 x6 x7 : Value} (h : Bk w b #[x0, x1, x2, x3, x4, x5, x6, x7]) :
    w.cell? ⟨b, 0, none⟩ = some x0 ∧ w.cell? ⟨b, 1, none⟩ = some x1 ∧ w.cell? ⟨b, 2, none⟩ = some x2 ∧ w.cell? ⟨b, 3, none⟩ = some x3 ∧ w.cell? ⟨b, 4, none⟩ = some x4 ∧ w.cell? ⟨b, 5, none⟩ = some x5 ∧ w.cell? ⟨b, 6, none⟩ = some x6 ∧ w.cell? ⟨b, 7, none⟩ = some x7 :=
  ⟨h.cell 0, h.cell 1, h.cell 2, h.cell 3, h.cell 4, h.cell 5, h.cell 6, h.cell 7⟩
theorem Bk.z8 {w : World} {b : Nat} {cs : Array Value} (h : Bk w b cs) :
    w.frozen? ⟨b, 0, none⟩ = false ∧ w.frozen? ⟨b, 1, none⟩ = false ∧ w.frozen? ⟨b, 2, none⟩ = false ∧ w.frozen? ⟨b, 3, none⟩ = false ∧ w.frozen? ⟨b, 4, none⟩ = false ∧ w.frozen? ⟨b, 5, none⟩ = false ∧ w.frozen? ⟨b, 6, none⟩ = false ∧ w.frozen? ⟨b, 7, none⟩ = false :=
  ⟨h.frz 0, h.frz 1, h.frz 2, h.frz 3, h.frz 4, h.frz 5, h.frz 6, h.frz 7⟩

/-- A reference's parts. -/
structure Ur where
  sch : List UInt8
  auth : List UInt8
  path : List UInt8
  q : List UInt8
  frag : List UInt8
  hA : Bool
  hQ : Bool
  hF : Bool
deriving DecidableEq
def uc (u : Ur) : Array Value := #[.string (bs u.sch), .string (bs u.auth), .string (bs u.path), .string (bs u.q), .string (bs u.frag), .bool u.hA, .bool u.hQ, .bool u.hF]
def uV (u : Ur) : Value := .agg (uc u)
def u0 : Ur := ⟨[], [], [], [], [], false, false, false⟩
/-- Cut at the marks. -/
def partL (l : List UInt8) : Ur :=
  let c1 := cutL 35 l
  let c2 := cutL 63 c1.1
  let s := schL c2.1
  let a := authL s.2
  ⟨s.1, a.1, a.2.1, c2.2.1, c1.2.1, a.2.2, c2.2.2, c1.2.2⟩
theorem cutL_len (c : UInt8) (l : List UInt8) : (cutL c l).1.length ≤ l.length := by show (l.take _).length ≤ _; rw [List.length_take]; omega
theorem schL_len (l : List UInt8) : (schL l).2.length ≤ l.length := by unfold schL; split; rw [List.length_drop]; omega; exact Nat.le_refl _

set_option maxRecDepth 100000 in
set_option maxHeartbeats 1600000 in
theorem parted_any (s : ByteArray) (w : World) (hs : s.size < 4294967281) :
    Calls Try.prog 24 #[.string s] w fun e w' => e = .returned (uV (partL s.data.toList)) ∧ Below w.heap.size w w' := by
  have hl := len_of s
  have h1 := fun w' => cut_any s 35 w' (by omega)
  have hle1 := cutL_len 35 s.data.toList
  obtain ⟨⟨a1, a2, a3⟩, ha⟩ : ∃ t, t = cutL 35 s.data.toList := ⟨_, rfl⟩
  rw [← ha] at hle1
  simp only at hle1
  have h2 := fun w' => cut_any (bs a1) 63 w' (by rw [bs_size]; omega)
  have hle2 := cutL_len 63 a1
  simp only [bs_list] at h2
  obtain ⟨⟨b1, b2, b3⟩, hb⟩ : ∃ t, t = cutL 63 a1 := ⟨_, rfl⟩
  rw [← hb] at hle2
  simp only at hle2
  have h3 := fun w' => schemeOff_any (bs b1) w' (by rw [bs_size]; omega)
  have hle3 := schL_len b1
  simp only [bs_list] at h3
  obtain ⟨⟨c1, c2⟩, hc⟩ : ∃ t, t = schL b1 := ⟨_, rfl⟩
  rw [← hc] at hle3
  simp only at hle3
  have h4 := fun w' => authorityOff_any (bs c2) w' (by rw [bs_size]; omega)
  simp only [bs_list] at h4
  obtain ⟨⟨d1, d2, d3⟩, hd⟩ : ∃ t, t = authL c2 := ⟨_, rfl⟩
  have HE : Hid (partL s.data.toList = ⟨c1, d1, d2, b2, a2, d3, b3, a3⟩) := by
    show _ = _
    unfold partL
    simp only [← ha, ← hb, ← hc, ← hd]
  simp only [← ha, cutV] at h1
  simp only [← hb, cutV] at h2
  simp only [← hc, schV] at h3
  simp only [← hd, cutV] at h4
  clear ha hb hc hd hle1 hle2 hle3 hl
  go_enter Try.func24, Try.ntmps24
  go_wp2_with fail
  refine (h1 _).mono ?_
  rintro e w1 ⟨rfl, n1, rfl⟩
  go_wp2_with fail
  refine (h2 _).mono ?_
  rintro e w2 ⟨rfl, n2, rfl⟩
  go_wp2_with fail
  refine (h3 _).mono ?_
  rintro e w3 ⟨rfl, hb3⟩
  have k1 : Bk w3 (w.heap.size + 1) #[.string ⟨#[]⟩, .string ⟨#[]⟩, .string ⟨#[]⟩, .string (bs b2), .string (bs a2), .bool false, .bool b3, .bool a3] := Bk.bel (Bk.dr (Bk.new' _ _ _ _ (by simp)) _) hb3
  have k0 : Bk w3 w.heap.size #[.string ⟨#[]⟩, .string ⟨#[]⟩, .string ⟨#[]⟩, .string ⟨#[]⟩, .string ⟨#[]⟩, .bool false, .bool false, .bool false] := Bk.bel (Bk.dr (Bk.al (Bk.new _ _ _) _) _) hb3
  have hbel3 : Below w.heap.size w w3 := bl_t (bl_n (bl_a (bl_a (Below.refl _ _) _) _) _) hb3
  clear hb3 h1 h2 h3
  obtain ⟨x0, x1, x2, x3, x4, x5, x6, x7⟩ := k1.c8
  obtain ⟨y0, y1, y2, y3, y4, y5, y6, y7⟩ := k1.z8
  go_wp2_with fail
  refine (h4 _).mono ?_
  rintro e w4 ⟨rfl, hb4⟩
  have k1' := Bk.bel (k1.set 0 (.string (bs c1)) rfl) hb4
  have k0' := Bk.bel (k0.away (a := ⟨w.heap.size + 1, 0, none⟩) (v := .string (bs c1)) (by simp)) hb4
  have hbel4 : Below w.heap.size w w4 := bl_t (bl_s hbel3 (by omega) _) hb4
  clear x0 x1 x2 x3 x4 x5 x6 x7 y0 y1 y2 y3 y4 y5 y6 y7 k1 k0 hb4 hbel3 h4
  obtain ⟨x0, x1, x2, x3, x4, x5, x6, x7⟩ := k1'.c8
  obtain ⟨y0, y1, y2, y3, y4, y5, y6, y7⟩ := k1'.z8
  obtain ⟨p0, p1, p2, p3, p4, p5, p6, p7⟩ := k0'.c8
  obtain ⟨q0, q1, q2, q3, q4, q5, q6, q7⟩ := k0'.z8
  clear k1' k0'
  go_wp2
  try simp only [Exit.inBlock, Exit.then]
  refine bodyPost_ret (by simp [results, Try.results24, go_sem, p0, p1, p2, p3, p4, p5, p6, p7]; try rfl) rfl ?_
  exact ⟨by rw [HE.out]; rfl, by with_reducible repeat (first | exact hbel4 | refine bl_s ?_ (by omega) _)⟩
end Go.Proofs.Ytgmigdfkdioalaa
