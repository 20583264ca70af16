/-
  What compiles a part, called; parts one behind the other. Conditions: there is room.
-/
import Derived.Test.YtcgohdfpmfpfiaaXZ2
import Derived.Test.YtcgohdfpmfpfiaaG16
import Derived.Test.YtcgohdfpmfpfiaaXN3
namespace Go.Proofs.Ytcgohdfpmfpfiaa
open Go.RowKit
attribute [local go_sem] setCell_drewN alloc_drewN

/-- A function value that puts a tree's states behind those that stand. -/
def FnOK (w : World) (lb sb cap : Nat) (x : RX) (v : Value) : Prop :=
  ∃ n caps, v = .func (.func n) #[] caps ∧ (∀ args w, (callFunc n args).run Try.prog w = .ok (.enter n args) w) ∧
    ∀ w' Z L, But (two lb sb) w w' → LZ w' lb sb cap Z L → L.length + szX x ≤ cap → Calls Try.prog n caps w' fun e w2 => e = .returned (.tuple #[]) ∧ LZ w2 lb sb cap Z (L ++ bld x L.length) ∧ But (two lb sb) w' w2
theorem FnOK.but {w w' : World} {lb sb cap : Nat} {x : RX} {v : Value} (h : FnOK w lb sb cap x v) (hb : But (two lb sb) w w') : FnOK w' lb sb cap x v := by
  obtain ⟨n, caps, e, h1, h2⟩ := h
  exact ⟨n, caps, e, h1, fun w2 Z L hb2 => h2 w2 Z L (hb.trans hb2)⟩
/-- Trees in a row that can be compiled. -/
structure PartsOK (w : World) (lb sb cap : Nat) (s : List RX) (ao : Option Addr) (cp : Nat) (G : Nat → Nat → Value) : Prop where
  cells : s = [] ∨ ∃ b off, ao = some ⟨b, off, none⟩ ∧ ¬ two lb sb b ∧ ∀ i, i < s.length → ∀ j, j < 6 → w.cell? ⟨b, off + i * 6 + j, none⟩ = some (G i j)
  six : ∀ i, i < s.length → Six (G i)
  part : ∀ i (h : i < s.length) w', But (two lb sb) w w' → Calls Try.prog 27 #[.pointer (some ⟨lb, 0, none⟩), .agg #[G i 0, G i 1, G i 2, G i 3, G i 4, G i 5]] w' fun e w2 => ∃ v, e = .returned v ∧ FnOK w2 lb sb cap s[i] v ∧ Below w'.heap.size w' w2
  len : s.length ≤ cp ∧ cp ≤ maxLen
  sz : ∀ x ∈ s, ∀ n, (bld x n).length = szX x
theorem PartsOK.but {w w' : World} {lb sb cap : Nat} {s : List RX} {ao : Option Addr} {cp : Nat} {G : Nat → Nat → Value} (h : PartsOK w lb sb cap s ao cp G) (hb : But (two lb sb) w w') : PartsOK w' lb sb cap s ao cp G := by
  refine ⟨?_, h.six, fun i hi w2 hb2 => h.part i hi w2 (hb.trans hb2), h.len, h.sz⟩
  rcases h.cells with h | ⟨b, off, e, hn, hc⟩
  · exact .inl h
  · exact .inr ⟨b, off, e, hn, fun i hi j hj => cell_but (hc i hi j hj) hn hb⟩
set_option maxRecDepth 100000 in
set_option maxHeartbeats 3200000 in
theorem row1_any (lb sb cap : Nat) (s : List RX) (ao : Option Addr) (cp : Nat) (G : Nat → Nat → Value) (w : World) (hp : PartsOK w lb sb cap s ao cp G) (p q : Nat) (Z : List Nat) (L : List ST)
    (c1 : w.cell? ⟨p, 0, none⟩ = some (.slice ao s.length cp)) (c2 : w.cell? ⟨q, 0, none⟩ = some (.pointer (some ⟨lb, 0, none⟩))) (hnq : ¬ two lb sb q) (h : LZ w lb sb cap Z L) (hroom : L.length + szL s ≤ cap) :
    Calls Try.prog 42 #[.pointer (some ⟨p, 0, none⟩), .pointer (some ⟨q, 0, none⟩)] w fun e w' => e = .returned (.tuple #[]) ∧ LZ w' lb sb cap Z (L ++ bldL s L.length) ∧ But (two lb sb) w w' := by
  have hlI : (s.length : Int) ≤ 9223372036854775807 := by have := hp.len.1; have := hp.len.2; unfold maxLen at this; omega
  obtain ⟨P, hP⟩ : ∃ P : Ending → World → Prop, P = fun e w' => e = .returned (.tuple #[]) ∧ LZ w' lb sb cap Z (L ++ bldL s L.length) ∧ But (two lb sb) w w' := ⟨_, rfl⟩
  rw [← hP]
  have HP := hid_intro hP
  have HPO := hid_intro hp
  have HQ : Hid (∀ w', But (two lb sb) w w' → w'.cell? ⟨q, 0, none⟩ = some (.pointer (some ⟨lb, 0, none⟩))) := hid_intro (fun w' hb => cell_but c2 hnq hb)
  have HH := hid_intro h
  have HRO := hid_intro hroom
  have hlenL : ∀ j, (bldL (s.take j) L.length).length = szL (s.take j) := fun j => bldL_len_of (fun x hx => hp.sz x (List.mem_of_mem_take hx)) _
  have HLL := hid_intro hlenL
  clear hP hp c2 h hroom hnq hlenL
  go_enter Try.func42, Try.ntmps42
  go_wp2_with fail
  clear c1
  go_loopg [6] s.length (fun me s6 wr => ∃ j : Nat, j ≤ s.length ∧ me = s.length - j ∧ s6 = .int .i64 (j : Int) ∧ Hid (LZ wr lb sb cap Z (L ++ bldL (s.take j) L.length) ∧ But (two lb sb) w wr))
  case atStart => exact ⟨0, Nat.zero_le _, rfl, rfl, by simpa [bldL] using HH.out, But.refl _ _⟩
  case round =>
    obtain ⟨j, hj, rfl, rfl, HZ⟩ := hrel
    by_cases hlt : j < s.length
    · have hJ : (j : Int) < (s.length : Int) := by omega
      have HPR := hid_intro (HPO.out.but HZ.out.2)
      obtain ⟨b, off, rfl, _, h3⟩ := HPR.out.cells.resolve_left (fun e => by rw [e] at hlt; exact absurd hlt (by simp))
      have g0 : wr.cell? ⟨b, off + j * 6, none⟩ = some (G j 0) := h3 j hlt 0 (by omega)
      have g1 := h3 j hlt 1 (by omega)
      have g2 := h3 j hlt 2 (by omega)
      have g3 := h3 j hlt 3 (by omega)
      have g4 := h3 j hlt 4 (by omega)
      have g5 := h3 j hlt 5 (by omega)
      have hpart := fun w' hb => HPR.out.part j hlt w' hb
      obtain ⟨x0, x1, x2, x3, x4, x5, x6, x7, x8, x9, e0, e1, e2, e3, e4, e5⟩ := HPR.out.six j hlt
      rw [e0] at g0
      rw [e1] at g1
      rw [e2] at g2
      rw [e3] at g3
      rw [e4] at g4
      rw [e5] at g5
      rw [e0, e1, e2, e3, e4, e5] at hpart
      clear e0 e1 e2 e3 e4 e5 h3
      obtain ⟨V, hV⟩ : ∃ V, wr.alloc (.cells #[.int .i64 x0, .slice x1 x2 x3, .int .i64 x4, .int .i64 x5, .bool x6, .slice x7 x8 x9] 32) = V := ⟨_, rfl⟩
      have hbV : Below wr.heap.size wr V := hV ▸ vb_a (Below.refl _ _) _
      have hpV := hpart V (But.ofBelow hbV)
      have q1 : (wr.alloc (.cells #[.int .i64 x0, .slice x1 x2 x3, .int .i64 x4, .int .i64 x5, .bool x6, .slice x7 x8 x9] 32)).cell? ⟨q, 0, none⟩ = some (.pointer (some ⟨lb, 0, none⟩)) := hV ▸ HQ.out V (HZ.out.2.below hbV)
      have HV := hid_intro hV
      have HBV := hid_intro hbV
      clear hV hbV hpart HPR
      go_wp2_with fail
      rw [HV.out]
      refine hpV.mono ?_; rintro e w2 ⟨v2, rfl, hfn, hb2⟩
      obtain ⟨fnum, caps, rfl, hent, hcall⟩ := hfn
      have hb02 := vb_t HBV.out hb2
      have hc := hcall w2 Z _ (But.refl _ _) (HZ.out.1.below hb02) (by
        rw [List.length_append, HLL.out]
        have h1 := szL_take s j hlt
        have h2 := szL_le s (j + 1)
        have := HRO.out
        omega)
      have HB2 := hid_intro hb02
      clear hcall hb2 hb02 g0 g1 g2 g3 g4 g5 q1 hpV
      go_wp2_with fail
      refine hc.mono ?_; rintro e w3 ⟨rfl, hls3, hbt3⟩
      have HN : Hid (LZ w3 lb sb cap Z (L ++ bldL (s.take (j + 1)) L.length) ∧ But (two lb sb) w w3) := hid_intro ⟨by
        rw [bldL_take s j hlt, ← List.append_assoc]
        rw [List.length_append, HLL.out] at hls3
        exact hls3, (HZ.out.2.below HB2.out).trans hbt3⟩
      clear hc hls3 hbt3 hent
      go_wp2_with fail
      go_roundg (s.length - (j + 1))
      case measure => omega
      case rel => exact ⟨j + 1, by omega, rfl, by simp, HN⟩
    · have hJ : ¬ (j : Int) < (s.length : Int) := by omega
      have HE : Hid (s.take j = s) := hid_intro (List.take_of_length_le (by omega))
      go_wp2_with fail
      go_end0
      rw [HP.out]
      have := HZ.out
      rw [HE.out] at this
      exact ⟨rfl, this⟩
end Go.Proofs.Ytcgohdfpmfpfiaa
