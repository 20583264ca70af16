/-
  ref5.Same answers true of two values that are the same tree. Conditions: none.
  The heads of layer 5's statements: what must come at any rate comes. Conditions: the tables as they are laid.
-/
import Derived.Test.YtfoehebnmommfaaGreatDoorJoined0
import Derived.Test.YtfoehebnmommfaaGreatDoorJoined14
import Derived.Laws.StructEq
import Derived.Deep.RegionHeld3
import Derived.Test.YtfoehebnmommfaaGreatDoorJoined41
import Derived.Test.YtfoehebnmommfaaGreatDoorJoined20
namespace Go.Proofs.YtfoehebnmommfaaGreatDoor
open Go.RowKit
attribute [local go_sem] setCell_drewN alloc_drewN

structure C7 (w : World) (b : Nat) (x0 x1 x2 x3 x4 x5 x6 : Value) : Prop where
 c0 : w.cell? ⟨b, 0, none⟩ = some x0
 c1 : w.cell? ⟨b, 1, none⟩ = some x1
 c2 : w.cell? ⟨b, 2, none⟩ = some x2
 c3 : w.cell? ⟨b, 3, none⟩ = some x3
 c4 : w.cell? ⟨b, 4, none⟩ = some x4
 c5 : w.cell? ⟨b, 5, none⟩ = some x5
 c6 : w.cell? ⟨b, 6, none⟩ = some x6
 z0 : w.frozen? ⟨b, 0, none⟩ = false
 z1 : w.frozen? ⟨b, 1, none⟩ = false
 z2 : w.frozen? ⟨b, 2, none⟩ = false
 z3 : w.frozen? ⟨b, 3, none⟩ = false
 z4 : w.frozen? ⟨b, 4, none⟩ = false
 z5 : w.frozen? ⟨b, 5, none⟩ = false
 z6 : w.frozen? ⟨b, 6, none⟩ = false
theorem C7.new (w : World) (x0 x1 x2 x3 x4 x5 x6 : Value) (t : TypeId) : C7 (w.alloc (.cells #[x0, x1, x2, x3, x4, x5, x6] t)) w.heap.size x0 x1 x2 x3 x4 x5 x6 := by
 constructor <;> first | exact World.frozen?_alloc_at _ _ _ _ rfl | (rw [World.cell?_alloc_at _ _ _ _ rfl]; rfl)
theorem C7.lt {w : World} {b : Nat} {x0 x1 x2 x3 x4 x5 x6 : Value} (h : C7 w b x0 x1 x2 x3 x4 x5 x6) : b < w.heap.size := World.block_lt_of_cell? w _ h.c0
theorem C7.below {w w' : World} {b B : Nat} {x0 x1 x2 x3 x4 x5 x6 : Value} (h : C7 w b x0 x1 x2 x3 x4 x5 x6) (hb : Below B w w') (hlt : b < B) : C7 w' b x0 x1 x2 x3 x4 x5 x6 := by
 have k : ∀ o, w'.cell? ⟨b, o, none⟩ = w.cell? ⟨b, o, none⟩ := fun o => hb.cell hlt
 have f : ∀ o, w'.frozen? ⟨b, o, none⟩ = w.frozen? ⟨b, o, none⟩ := fun o => hb.frozen hlt
 exact ⟨(k _).trans h.c0, (k _).trans h.c1, (k _).trans h.c2, (k _).trans h.c3, (k _).trans h.c4, (k _).trans h.c5, (k _).trans h.c6, (f _).trans h.z0, (f _).trans h.z1, (f _).trans h.z2, (f _).trans h.z3, (f _).trans h.z4, (f _).trans h.z5, (f _).trans h.z6⟩
theorem C7.al {w : World} {b : Nat} {x0 x1 x2 x3 x4 x5 x6 : Value} (h : C7 w b x0 x1 x2 x3 x4 x5 x6) (o : Obj) : C7 (w.alloc o) b x0 x1 x2 x3 x4 x5 x6 := h.below (bl_a (Below.refl _ _) _) h.lt
theorem eqIn_same (a : Bool) (s : ByteArray) (e : Int) (w : World) :
  (Op.equalIn 10000 27 (.agg #[.bool a, .string s, .int .i64 e]) (.agg #[.bool a, .string s, .int .i64 e])).run Tryz.prog w = .ok true w := by
 have u3 := Tryz.underlying3
 have u4 := Tryz.underlying4
 have u9 := Tryz.underlying9
 have a3 := Tryz.isAgg3
 have a4 := Tryz.isAgg4
 have a9 := Tryz.isAgg9
 have z3 := Tryz.sizeOf3
 have z4 := Tryz.sizeOf4
 have z9 := Tryz.sizeOf9
 have hS : Tryz.prog.underlying 27 = some (.struct (Tryz.prog.fieldsOf 27)) := by kernel_rfl
 have hp : Tryz.prog.stoodInHeld 27 = false := by kernel_rfl
 rw [show (10000 : Nat) = 9999 + 1 from rfl, run_equalIn_agg w 9999 27 _ _ hS hp]
 simp only [Program.fieldsOf, Tryz.underlying27]
 go_simp
theorem neq_same (a : Bool) (s : ByteArray) (e : Int) (w : World) :
  (binOp .neq 27 (.agg #[.bool a, .string s, .int .i64 e]) (.agg #[.bool a, .string s, .int .i64 e])).run Tryz.prog w = .ok (.bool false) w := by
 rw [run_neq_struct, eqIn_same]; rfl
set_option maxRecDepth 100000 in
set_option maxHeartbeats 3200000 in
theorem same_refl (v : JV) : ∀ (f f' : Nat → Value) (w : World), VI w (fun _ => False) v f → VI w (fun _ => False) v f' →
  Calls Tryz.prog 11 #[va f, va f'] w fun r w' => r = .returned (.bool true) ∧ Below w.heap.size w w' := by
 induction v using JV.ind with
 | h k n g e t l ks ih =>
 intro f f' w hv hv'
 obtain ⟨ao, cap, ko, kc, G, hva, s1, s2, hr, hl, hk⟩ := hv.open
 obtain ⟨ao', cap', ko', kc', G', hva', _, _, hr', hl', hk'⟩ := hv'.open
 rw [hva, hva']
 clear hva hva' hv hv'
 have hdec := neq_same n g e
 have htx : (t.toList == t.toList) = true := by simp
 have hlI : (l.length : Int) ≤ 9223372036854775807 := by unfold maxLen at s1; omega
 have hkI : (ks.length : Int) ≤ 9223372036854775807 := by unfold maxLen at s2; omega
 generalize hW : (w.alloc (.cells #[.int .i64 k, .bool n, .string g, .int .i64 e, .string t, .slice ao l.length cap, .slice ko ks.length kc] 31)).alloc (.cells #[.int .i64 k, .bool n, .string g, .int .i64 e, .string t, .slice ao' l.length cap', .slice ko' ks.length kc'] 31) = W
 have hbW : Below w.heap.size w W := by rw [← hW]; exact bl_a (bl_a (Below.refl _ _) _) _
 have hA : C7 W w.heap.size (.int .i64 k) (.bool n) (.string g) (.int .i64 e) (.string t) (.slice ao l.length cap) (.slice ko ks.length kc) := by
  rw [← hW]; exact (C7.new w _ _ _ _ _ _ _ _).al _
 have hB : C7 W (w.heap.size + 1) (.int .i64 k) (.bool n) (.string g) (.int .i64 e) (.string t) (.slice ao' l.length cap') (.slice ko' ks.length kc') := by
  rw [← hW]
  have := C7.new (w.alloc (.cells #[.int .i64 k, .bool n, .string g, .int .i64 e, .string t, .slice ao l.length cap, .slice ko ks.length kc] 31)) (.int .i64 k) (.bool n) (.string g) (.int .i64 e) (.string t) (.slice ao' l.length cap') (.slice ko' ks.length kc') 31
  simpa using this
 have HA : Hid (∀ w', Below W.heap.size W w' → C7 w' w.heap.size (.int .i64 k) (.bool n) (.string g) (.int .i64 e) (.string t) (.slice ao l.length cap) (.slice ko ks.length kc)) := fun w' hb => hA.below hb hA.lt
 have HB : Hid (∀ w', Below W.heap.size W w' → C7 w' (w.heap.size + 1) (.int .i64 k) (.bool n) (.string g) (.int .i64 e) (.string t) (.slice ao' l.length cap') (.slice ko' ks.length kc')) := fun w' hb => hB.below hb hB.lt
 have HK : Hid (∀ w', Below W.heap.size W w' → (ks = [] ∨ ∃ b off, ko = some ⟨b, off, none⟩ ∧ ∀ i (h : i < ks.length), w'.cell? ⟨b, off + i, none⟩ = some (.string ks[i]))) := fun w' hb => by
  rcases hk with hk | ⟨b, off, h1, h2, h3⟩
  ·exact .inl hk
  ·exact .inr ⟨b, off, h1, fun i hi => by rw [(bl_t hbW hb).cell (p := ⟨b, off + i, none⟩) h2]; exact h3 i hi⟩
 have HK' : Hid (∀ w', Below W.heap.size W w' → (ks = [] ∨ ∃ b off, ko' = some ⟨b, off, none⟩ ∧ ∀ i (h : i < ks.length), w'.cell? ⟨b, off + i, none⟩ = some (.string ks[i]))) := fun w' hb => by
  rcases hk' with hk | ⟨b, off, h1, h2, h3⟩
  ·exact .inl hk
  ·exact .inr ⟨b, off, h1, fun i hi => by rw [(bl_t hbW hb).cell (p := ⟨b, off + i, none⟩) h2]; exact h3 i hi⟩
 have HL : Hid (∀ w', Below W.heap.size W w' → (l = [] ∨ ∃ b off, ao = some ⟨b, off, none⟩ ∧ ∀ i, i < l.length → ∀ j, j < 7 → w'.cell? ⟨b, off + i * 7 + j, none⟩ = some (G i j))) := fun w' hb => by
  rcases hl with hl | ⟨b, off, h1, h2, h3⟩
  ·exact .inl hl
  ·exact .inr ⟨b, off, h1, fun i hi j hj => by rw [(bl_t hbW hb).cell (p := ⟨b, off + i * 7 + j, none⟩) h2]; exact h3 i hi j hj⟩
 have HL' : Hid (∀ w', Below W.heap.size W w' → (l = [] ∨ ∃ b off, ao' = some ⟨b, off, none⟩ ∧ ∀ i, i < l.length → ∀ j, j < 7 → w'.cell? ⟨b, off + i * 7 + j, none⟩ = some (G' i j))) := fun w' hb => by
  rcases hl' with hl | ⟨b, off, h1, h2, h3⟩
  ·exact .inl hl
  ·exact .inr ⟨b, off, h1, fun i hi j hj => by rw [(bl_t hbW hb).cell (p := ⟨b, off + i * 7 + j, none⟩) h2]; exact h3 i hi j hj⟩
 have HI : Hid (∀ w' i (h : i < l.length), Below W.heap.size W w' → Calls Tryz.prog 11 #[.agg #[G i 0, G i 1, G i 2, G i 3, G i 4, G i 5, G i 6], .agg #[G' i 0, G' i 1, G' i 2, G' i 3, G' i 4, G' i 5, G' i 6]] w' fun r w2 => r = .returned (.bool true) ∧ Below w'.heap.size w' w2) := fun w' i h hb => ih l[i] (List.getElem_mem h) (G i) (G' i) w' ((hr i h).kept (bl_t hbW hb)) ((hr' i h).kept (bl_t hbW hb))
 have HX : Hid (∀ w', Below W.heap.size W w' → Below w.heap.size w w') := fun w' hb => bl_t hbW hb
 clear hk hk' hl hl' hr hr' ih hbW s1 s2
 obtain ⟨a0, a1, a2, a3, a4, a5, a6, _, _, _, _, _, _, _⟩ := hA
 obtain ⟨b0, b1, b2, b3, b4, b5, b6, _, _, _, _, _, _, _⟩ := hB
 go_enter Tryz.func11, Tryz.ntmps11
 go_wp2_with fail
 clear a0 a1 a2 a3 a4 a5 a6 b0 b1 b2 b3 b4 b5 b6 hdec htx
 go_loopw [5] (fun tv wr => ∃ i : Nat, i ≤ ks.length ∧ tv = .int .i64 i ∧ Hid (Below W.heap.size W wr)) (fun tv _ => ks.length - (intOf tv).toNat)
 case atStart => exact ⟨0, Nat.zero_le _, rfl, Below.refl _ _⟩
 case round =>
  obtain ⟨i, hi, rfl, HW⟩ := hrel
  have a6 := (HA.out wr HW.out).c6
  have b6 := (HB.out wr HW.out).c6
  by_cases hlt : i < ks.length
  ·have hI : (i : Int) < (ks.length : Int) := by omega
   obtain ⟨b, off, rfl, hc⟩ := (HK.out wr HW.out).resolve_left (fun e => by rw [e] at hlt; exact absurd hlt (by simp))
   obtain ⟨b', off', rfl, hc'⟩ := (HK'.out wr HW.out).resolve_left (fun e => by rw [e] at hlt; exact absurd hlt (by simp))
   have d1 := hc i hlt
   have d2 := hc' i hlt
   have heq : (ks[i].toList == ks[i].toList) = true := by simp
   clear hc hc' HA HB HK HK' HL HL' HI HX
   generalize ks[i] = y at *
   go_wp2_with fail
   go_quiet (fail)
   go_wp2
   go_roundw
   case rel => exact ⟨i + 1, by omega, by go_num, bl_n HW.out _⟩
   case measure => simp [intOf]; omega
  ·have hI : ¬ (i : Int) < (ks.length : Int) := by omega
   clear HK HK' a6 b6
   have a6 := (HA.out wr HW.out).c6
   go_wp2_with fail
   clear a6
   go_loopw [6] (fun tv wq => ∃ j : Nat, j ≤ l.length ∧ tv = .int .i64 j ∧ Hid (Below W.heap.size W wq)) (fun tv _ => l.length - (intOf tv).toNat)
   case atStart => exact ⟨0, Nat.zero_le _, rfl, HW⟩
   case round =>
    obtain ⟨j, hj, rfl, HZ⟩ := hrel
    clear HW
    have a5 := (HA.out wr HZ.out).c5
    by_cases hlt : j < l.length
    ·have hJ : (j : Int) < (l.length : Int) := by omega
     have b5 := (HB.out wr HZ.out).c5
     have hS : ∀ w', Below wr.heap.size wr w' → ∃ b off b' off', ao = some ⟨b, off, none⟩ ∧ ao' = some ⟨b', off', none⟩ := fun w' hb => by
      obtain ⟨b, off, h1, _⟩ := (HL.out w' (bl_t HZ.out hb)).resolve_left (fun e => by rw [e] at hlt; exact absurd hlt (by simp))
      obtain ⟨b', off', h2, _⟩ := (HL'.out w' (bl_t HZ.out hb)).resolve_left (fun e => by rw [e] at hlt; exact absurd hlt (by simp))
      exact ⟨b, off, b', off', h1, h2⟩
     obtain ⟨b, off, b', off', rfl, rfl⟩ := hS wr (Below.refl _ _)
     have HS : Hid (∀ w', Below wr.heap.size wr w' → w'.cell? ⟨w.heap.size, 5, none⟩ = some (.slice (some ⟨b, off, none⟩) l.length cap) ∧ w'.cell? ⟨w.heap.size + 1, 5, none⟩ = some (.slice (some ⟨b', off', none⟩) l.length cap') ∧ w'.cell? ⟨b, off + j * 7, none⟩ = some (G j 0) ∧ w'.cell? ⟨b, off + j * 7 + 1, none⟩ = some (G j 1) ∧ w'.cell? ⟨b, off + j * 7 + 2, none⟩ = some (G j 2) ∧ w'.cell? ⟨b, off + j * 7 + 3, none⟩ = some (G j 3) ∧ w'.cell? ⟨b, off + j * 7 + 4, none⟩ = some (G j 4) ∧ w'.cell? ⟨b, off + j * 7 + 5, none⟩ = some (G j 5) ∧ w'.cell? ⟨b, off + j * 7 + 6, none⟩ = some (G j 6) ∧ w'.cell? ⟨b', off' + j * 7, none⟩ = some (G' j 0) ∧ w'.cell? ⟨b', off' + j * 7 + 1, none⟩ = some (G' j 1) ∧ w'.cell? ⟨b', off' + j * 7 + 2, none⟩ = some (G' j 2) ∧ w'.cell? ⟨b', off' + j * 7 + 3, none⟩ = some (G' j 3) ∧ w'.cell? ⟨b', off' + j * 7 + 4, none⟩ = some (G' j 4) ∧ w'.cell? ⟨b', off' + j * 7 + 5, none⟩ = some (G' j 5) ∧ w'.cell? ⟨b', off' + j * 7 + 6, none⟩ = some (G' j 6)) := fun w' hb => by
      have hb2 := bl_t HZ.out hb
      obtain ⟨c, o, h1, h3⟩ := (HL.out w' hb2).resolve_left (fun e => by rw [e] at hlt; exact absurd hlt (by simp))
      obtain ⟨c', o', h2, h4⟩ := (HL'.out w' hb2).resolve_left (fun e => by rw [e] at hlt; exact absurd hlt (by simp))
      injection h1 with h1
      injection h1 with h1a h1b _
      subst h1a h1b
      injection h2 with h2
      injection h2 with h2a h2b _
      subst h2a h2b
      exact ⟨(HA.out w' hb2).c5, (HB.out w' hb2).c5, h3 j hlt 0 (by omega), h3 j hlt 1 (by omega), h3 j hlt 2 (by omega), h3 j hlt 3 (by omega), h3 j hlt 4 (by omega), h3 j hlt 5 (by omega), h3 j hlt 6 (by omega), h4 j hlt 0 (by omega), h4 j hlt 1 (by omega), h4 j hlt 2 (by omega), h4 j hlt 3 (by omega), h4 j hlt 4 (by omega), h4 j hlt 5 (by omega), h4 j hlt 6 (by omega)⟩
     have HC : Hid (∀ w', Below wr.heap.size wr w' → Calls Tryz.prog 11 #[.agg #[G j 0, G j 1, G j 2, G j 3, G j 4, G j 5, G j 6], .agg #[G' j 0, G' j 1, G' j 2, G' j 3, G' j 4, G' j 5, G' j 6]] w' fun r w2 => r = .returned (.bool true) ∧ Below w'.heap.size w' w2) := fun w' hb => HI.out w' j hlt (bl_t HZ.out hb)
     clear hS HA HB HL HL' HI HX b5
     go_wp2_with fail
     go_region_held3 (fun w' => w'.cell? ⟨w.heap.size, 5, none⟩ = some (.slice (some ⟨b, off, none⟩) l.length cap) ∧ w'.cell? ⟨w.heap.size + 1, 5, none⟩ = some (.slice (some ⟨b', off', none⟩) l.length cap') ∧ w'.cell? ⟨b, off + j * 7, none⟩ = some (G j 0) ∧ w'.cell? ⟨b, off + j * 7 + 1, none⟩ = some (G j 1) ∧ w'.cell? ⟨b, off + j * 7 + 2, none⟩ = some (G j 2) ∧ w'.cell? ⟨b, off + j * 7 + 3, none⟩ = some (G j 3) ∧ w'.cell? ⟨b, off + j * 7 + 4, none⟩ = some (G j 4) ∧ w'.cell? ⟨b, off + j * 7 + 5, none⟩ = some (G j 5) ∧ w'.cell? ⟨b, off + j * 7 + 6, none⟩ = some (G j 6) ∧ w'.cell? ⟨b', off' + j * 7, none⟩ = some (G' j 0) ∧ w'.cell? ⟨b', off' + j * 7 + 1, none⟩ = some (G' j 1) ∧ w'.cell? ⟨b', off' + j * 7 + 2, none⟩ = some (G' j 2) ∧ w'.cell? ⟨b', off' + j * 7 + 3, none⟩ = some (G' j 3) ∧ w'.cell? ⟨b', off' + j * 7 + 4, none⟩ = some (G' j 4) ∧ w'.cell? ⟨b', off' + j * 7 + 5, none⟩ = some (G' j 5) ∧ w'.cell? ⟨b', off' + j * 7 + 6, none⟩ = some (G' j 6)) (first | (refine HS.out _ ?_; with_reducible repeat (first | exact Below.refl _ _ | refine bl_t ?_ hb3 | refine bl_d ?_)) | fail) (first | (go_at_call 11; refine (HC.out _ ?_).mono ?_; (with_reducible repeat (first | exact Below.refl _ _ | refine bl_d ?_)); rintro r w3 ⟨rfl, hb3⟩) | fail)
     all_goals
      have hnx := bl_t HZ.out (show Below wr.heap.size wr w3 from bl_t (by with_reducible repeat (first | exact Below.refl _ _ | refine bl_d ?_)) hb3)
      have HNX : Hid (Below W.heap.size W w3) := hnx
      clear hnx HS HC
      go_wp2
      go_roundw
      case rel => exact ⟨j + 1, by omega, by go_num, HNX⟩
      case measure => simp [intOf]; omega
    ·have hJ : ¬ (j : Int) < (l.length : Int) := by omega
     have hfin := HX.out wr HZ.out
     clear HA HB HL HL' HI HX
     go_wp2
     go_ret
     exact ⟨rfl, hfin⟩
end Go.Proofs.YtfoehebnmommfaaGreatDoor

namespace Go.Proofs.YtfoehebnmommfaaGreatDoor
open Go.RowKit Go.Maps
attribute [local go_sem] setCell_drewN alloc_drewN

theorem jd1 : judgedS [123, 34, 97, 34, 58, 91, 49, 46, 48, 44, 32, 110, 117, 108, 108, 93, 125] (bm 0 0 0) = .ok (.mk 6 false ⟨#[]⟩ 0 ⟨#[]⟩ [.mk 5 false ⟨#[]⟩ 0 ⟨#[]⟩ [.mk 3 false ⟨#[49]⟩ 0 ⟨#[]⟩ [] [], zeroJ 0] []] [⟨#[97]⟩]) := by kernel_rfl
theorem jd2 : judgedS [123, 34, 97, 34, 58, 49, 44, 34, 97, 34] (bm 0 0 0) = .error (3, 10) := by kernel_rfl
theorem jd3 : judgedS [91, 49, 44] (bm 0 0 0) = .error (3, 4) := by kernel_rfl
theorem jd4 : judgedS [49, 101, 50, 48, 48, 48, 48, 48, 48] (bm 0 0 0) = .error (4, 4) := by kernel_rfl
theorem jd5 : judgedS [91, 91, 49, 93, 93] (bm 1 0 0) = .error (4, 2) := by kernel_rfl
theorem eqIn_verd (r n r' n' : Int) (w : World) :
  (Op.equalIn 10000 34 (.agg #[.int .i64 r, .int .i64 n]) (.agg #[.int .i64 r', .int .i64 n'])).run Tryz.prog w = .ok (decide (r = r' ∧ n = n')) w := by
 have u3 := Tryz.underlying3
 have u4 := Tryz.underlying32
 have a3 := Tryz.isAgg3
 have a4 := Tryz.isAgg32
 have z3 := Tryz.sizeOf3
 have z4 := Tryz.sizeOf32
 have hS : Tryz.prog.underlying 34 = some (.struct (Tryz.prog.fieldsOf 34)) := by kernel_rfl
 have hp : Tryz.prog.stoodInHeld 34 = false := by kernel_rfl
 rw [show (10000 : Nat) = 9999 + 1 from rfl, run_equalIn_agg w 9999 34 _ _ hS hp]
 simp only [Program.fieldsOf, Tryz.underlying34]
 go_simp
 by_cases h1 : r = r' <;> by_cases h2 : n = n' <;> simp [h1, h2]
theorem heads_val {w : World} {X : Nat → Prop} {f : Nat → Value} (h : VI w X (.mk 6 false ⟨#[]⟩ 0 ⟨#[]⟩ [.mk 5 false ⟨#[]⟩ 0 ⟨#[]⟩ [.mk 3 false ⟨#[49]⟩ 0 ⟨#[]⟩ [] [], zeroJ 0] []] [⟨#[97]⟩]) f) :
  ∃ b off cap ko kc b2 off2 cap2, va f = .agg #[.int .i64 6, .bool false, .string ⟨#[]⟩, .int .i64 0, .string ⟨#[]⟩, .slice (some ⟨b, off, none⟩) 1 cap, .slice ko 1 kc] ∧ ∀ w', Below w.heap.size w w' → w'.cell? ⟨b, off + 5, none⟩ = some (.slice (some ⟨b2, off2, none⟩) 2 cap2) ∧ w'.cell? ⟨b2, off2 + 1, none⟩ = some (.bool false) ∧ w'.cell? ⟨b2, off2 + 2, none⟩ = some (.string ⟨#[49]⟩) ∧ w'.cell? ⟨b2, off2 + 3, none⟩ = some (.int .i64 0) := by
 obtain ⟨ao, cap, ko, kc, G, hva, _, _, hr, hl, _⟩ := h.open
 rcases hl with hl | ⟨b, off, rfl, hlt, hc⟩
 ·simp at hl
 have h1 := hr 0 (by simp)
 obtain ⟨ao2, cap2, ko2, kc2, G2, hva2, _, _, hr2, hl2, _⟩ := h1.open
 rcases hl2 with hl2 | ⟨b2, off2, rfl, hlt2, hc2⟩
 ·simp at hl2
 have h3 := hr2 0 (by simp)
 obtain ⟨ao3, cap3, ko3, kc3, G3, hva3, _, _, _, _, _⟩ := h3.open
 have e5 : G 0 5 = .slice (some ⟨b2, off2, none⟩) 2 cap2 := by
  unfold va at hva2
  injection hva2 with hva2
  have := congrArg (fun a : Array Value => a[5]?) hva2
  simpa using this
 have e3 : G2 0 1 = .bool false ∧ G2 0 2 = .string ⟨#[49]⟩ ∧ G2 0 3 = .int .i64 0 := by
  unfold va at hva3
  injection hva3 with hva3
  refine ⟨?_, ?_, ?_⟩
  ·have := congrArg (fun a : Array Value => a[1]?) hva3; simpa using this
  ·have := congrArg (fun a : Array Value => a[2]?) hva3; simpa using this
  ·have := congrArg (fun a : Array Value => a[3]?) hva3; simpa using this
 refine ⟨b, off, cap, ko, kc, b2, off2, cap2, hva, fun w' hb => ⟨?_, ?_, ?_, ?_⟩⟩
 ·rw [hb.cell (p := ⟨b, off + 5, none⟩) hlt, ← e5]; have := hc 0 (by simp) 5 (by omega); simpa using this
 ·rw [hb.cell (p := ⟨b2, off2 + 1, none⟩) hlt2, ← e3.1]; have := hc2 0 (by simp) 1 (by omega); simpa using this
 ·rw [hb.cell (p := ⟨b2, off2 + 2, none⟩) hlt2, ← e3.2.1]; have := hc2 0 (by simp) 2 (by omega); simpa using this
 ·rw [hb.cell (p := ⟨b2, off2 + 3, none⟩) hlt2, ← e3.2.2]; have := hc2 0 (by simp) 3 (by omega); simpa using this
theorem read_lit (l : List UInt8) (x : Except (Int × Int) JV) (cs : Array Value) (n : Nat) (a1 : Int) (w : World) (b : Nat) (a : Addr) (hE : Lx.Env w) (hD : Env w a) (hc : cs = (l.map fun c => Value.int .u8 (c.toNat : Nat)).toArray) (hn : n = l.length) (hb : w.heap.size = b) (hm : l.length ≤ 1000) (hr : judgedS l (bm a1 0 0) = x) :
  Calls Tryz.prog 9 #[.slice (some ⟨b, 0, none⟩) n n, .agg #[.int .i64 a1, .int .i64 0, .int .i64 0, .int .i64 0, .int .i64 0]] (w.alloc (.cells cs 5 (n, n + 1))) (JdR x (w.alloc (.cells cs 5 (n, n + 1)))) := by
 subst hc hn hb hr
 exact read_any l _ a1 0 0 0 0 _ a (hE.below (vb_a (Below.refl _ _) _)) (hD.below (vb_a (Below.refl _ _) _)) (Lx.row_fz w l 5 _ hm)
set_option maxRecDepth 100000 in
set_option maxHeartbeats 3200000 in
theorem heads_any (w : World) (a : Addr) (hE : Lx.Env w) (hD : Env w a) :
  Calls Tryz.prog 14 #[] w fun r w' => r = .returned (.bool true) ∧ Below w.heap.size w w' := by
 have n1 := hid_intro (fun (w' : World) (b : Nat) (hk : w'.heap.size = b) (hE' : Lx.Env w') (hD' : Env w' a) => read_lit [123, 34, 97, 34, 58, 91, 49, 46, 48, 44, 32, 110, 117, 108, 108, 93, 125] _ #[.int .u8 123, .int .u8 34, .int .u8 97, .int .u8 34, .int .u8 58, .int .u8 91, .int .u8 49, .int .u8 46, .int .u8 48, .int .u8 44, .int .u8 32, .int .u8 110, .int .u8 117, .int .u8 108, .int .u8 108, .int .u8 93, .int .u8 125] 17 0 w' b a hE' hD' rfl rfl hk (by decide) jd1)
 have n2 := hid_intro (fun (w' : World) (b : Nat) (hk : w'.heap.size = b) (hE' : Lx.Env w') (hD' : Env w' a) => read_lit [123, 34, 97, 34, 58, 49, 44, 34, 97, 34] _ #[.int .u8 123, .int .u8 34, .int .u8 97, .int .u8 34, .int .u8 58, .int .u8 49, .int .u8 44, .int .u8 34, .int .u8 97, .int .u8 34] 10 0 w' b a hE' hD' rfl rfl hk (by decide) jd2)
 have n3 := hid_intro (fun (w' : World) (b : Nat) (hk : w'.heap.size = b) (hE' : Lx.Env w') (hD' : Env w' a) => read_lit [91, 49, 44] _ #[.int .u8 91, .int .u8 49, .int .u8 44] 3 0 w' b a hE' hD' rfl rfl hk (by decide) jd3)
 have n4 := hid_intro (fun (w' : World) (b : Nat) (hk : w'.heap.size = b) (hE' : Lx.Env w') (hD' : Env w' a) => read_lit [49, 101, 50, 48, 48, 48, 48, 48, 48] _ #[.int .u8 49, .int .u8 101, .int .u8 50, .int .u8 48, .int .u8 48, .int .u8 48, .int .u8 48, .int .u8 48, .int .u8 48] 9 0 w' b a hE' hD' rfl rfl hk (by decide) jd4)
 have n5 := hid_intro (fun (w' : World) (b : Nat) (hk : w'.heap.size = b) (hE' : Lx.Env w') (hD' : Env w' a) => read_lit [91, 91, 49, 93, 93] _ #[.int .u8 91, .int .u8 91, .int .u8 49, .int .u8 93, .int .u8 93] 5 1 w' b a hE' hD' rfl rfl hk (by decide) jd5)
 have HE := hid_intro hE
 have HD := hid_intro hD
 have v1 : ∀ w, (Op.equalIn 10000 34 (.agg #[.int .i64 1, .int .i64 0]) (.agg #[.int .i64 1, .int .i64 0])).run Tryz.prog w = .ok true w := fun w => by rw [eqIn_verd]; rfl
 have v310 : ∀ w, (Op.equalIn 10000 34 (.agg #[.int .i64 3, .int .i64 10]) (.agg #[.int .i64 3, .int .i64 10])).run Tryz.prog w = .ok true w := fun w => by rw [eqIn_verd]; rfl
 have v34 : ∀ w, (Op.equalIn 10000 34 (.agg #[.int .i64 3, .int .i64 4]) (.agg #[.int .i64 3, .int .i64 4])).run Tryz.prog w = .ok true w := fun w => by rw [eqIn_verd]; rfl
 have v44 : ∀ w, (Op.equalIn 10000 34 (.agg #[.int .i64 4, .int .i64 4]) (.agg #[.int .i64 4, .int .i64 4])).run Tryz.prog w = .ok true w := fun w => by rw [eqIn_verd]; rfl
 have v42 : ∀ w, (Op.equalIn 10000 34 (.agg #[.int .i64 4, .int .i64 2]) (.agg #[.int .i64 4, .int .i64 2])).run Tryz.prog w = .ok true w := fun w => by rw [eqIn_verd]; rfl
 have hdec := eqIn_same false ⟨#[49]⟩ 0
 clear hE hD
 go_enter Tryz.func14, Tryz.ntmps14
 have cv1 := Lx.conv_lit w _ 17 #[.int .u8 123, .int .u8 34, .int .u8 97, .int .u8 34, .int .u8 58, .int .u8 91, .int .u8 49, .int .u8 46, .int .u8 48, .int .u8 44, .int .u8 32, .int .u8 110, .int .u8 117, .int .u8 108, .int .u8 108, .int .u8 93, .int .u8 125] 17 rfl rfl
 go_wp2_with fail
 refine (n1.out _ _ rfl HE.out HD.out).mono ?_
 rintro r w1 ⟨hb1, f1, rfl, hv1⟩
 obtain ⟨b, off, cap, ko, kc, b2, off2, cap2, hva, hcs⟩ := heads_val hv1
 have HCS := hid_intro hcs
 rw [hva]
 clear hva hv1 hcs
 obtain ⟨A1, hA1⟩ : ∃ A1, (w1.alloc (.cells #[.int .i64 6, .bool false, .string ⟨#[]⟩, .int .i64 0, .string ⟨#[]⟩, .slice (some ⟨b, off, none⟩) 1 cap, .slice ko 1 kc] 31)).alloc (.cells #[.int .i64 1, .int .i64 0] 34) = A1 := ⟨_, rfl⟩
 have HB1 : Hid (Below w.heap.size w A1) := hid_intro (hA1 ▸ vb_a (vb_a (vb_t (vb_a (Below.refl w.heap.size w) _) hb1) _) _)
 have HS1 : Hid (Below w1.heap.size w1 A1) := hid_intro (hA1 ▸ vb_a (vb_a (Below.refl _ _) _) _)
 have HX1 : Hid (Bj A1 w1.heap.size #[.int .i64 6, .bool false, .string ⟨#[]⟩, .int .i64 0, .string ⟨#[]⟩, .slice (some ⟨b, off, none⟩) 1 cap, .slice ko 1 kc]) := hid_intro (hA1 ▸ (Bj.new _ _ _).al _)
 have HY1 : Hid (Bj A1 (w1.heap.size + 1) #[.int .i64 1, .int .i64 0]) := hid_intro (hA1 ▸ Bj.new' _ _ _ _ (by simp))
 clear hb1 cv1
 have HA1 := hid_intro hA1
 have hz1 : A1.heap.size = w1.heap.size + 1 + 1 := by rw [← hA1]; simp
 have HZ1 := hid_intro hz1
 clear hA1 hz1
 have cv2 := Lx.conv_lit ((w1.alloc (.cells #[.int .i64 6, .bool false, .string ⟨#[]⟩, .int .i64 0, .string ⟨#[]⟩, .slice (some ⟨b, off, none⟩) 1 cap, .slice ko 1 kc] 31)).alloc (.cells #[.int .i64 1, .int .i64 0] 34)) (w1.heap.size + 1 + 1) 10 #[.int .u8 123, .int .u8 34, .int .u8 97, .int .u8 34, .int .u8 58, .int .u8 49, .int .u8 44, .int .u8 34, .int .u8 97, .int .u8 34] 10 (by simp) rfl
 go_wp2_with fail
 rw [HA1.out]
 refine (n2.out _ _ HZ1.out (HE.out.below HB1.out) (HD.out.below HB1.out)).mono ?_
 rintro r w2 ⟨hb2, rfl⟩
 unfold zV7
 obtain ⟨A2, hA2⟩ : ∃ A2, (w2.alloc (.cells #[.int .i64 0, .bool false, .string ⟨#[]⟩, .int .i64 0, .string ⟨#[]⟩, .slice none 0 0, .slice none 0 0] 31)).alloc (.cells #[.int .i64 3, .int .i64 10] 34) = A2 := ⟨_, rfl⟩
 have HB2 : Hid (Below w.heap.size w A2) := hid_intro (hA2 ▸ vb_a (vb_a (vb_t (vb_a HB1.out _) hb2) _) _)
 have HS2 : Hid (Below w2.heap.size w2 A2) := hid_intro (hA2 ▸ vb_a (vb_a (Below.refl _ _) _) _)
 have HP2 : Hid (Below A1.heap.size A1 A2) := hid_intro (vb_t (vb_t (vb_a (Below.refl _ _) _) hb2) HS2.out)
 have HY2 : Hid (Bj A2 (w2.heap.size + 1) #[.int .i64 3, .int .i64 10]) := hid_intro (hA2 ▸ Bj.new' _ _ _ _ (by simp))
 clear hb2 cv2
 have cv3 := Lx.conv_lit A2 _ 3 #[.int .u8 91, .int .u8 49, .int .u8 44] 3 rfl rfl
 go_wp2_with fail
 refine (n3.out _ _ rfl (HE.out.below HB2.out) (HD.out.below HB2.out)).mono ?_
 rintro r w3 ⟨hb3, rfl⟩
 unfold zV7
 obtain ⟨A3, hA3⟩ : ∃ A3, (w3.alloc (.cells #[.int .i64 0, .bool false, .string ⟨#[]⟩, .int .i64 0, .string ⟨#[]⟩, .slice none 0 0, .slice none 0 0] 31)).alloc (.cells #[.int .i64 3, .int .i64 4] 34) = A3 := ⟨_, rfl⟩
 have HB3 : Hid (Below w.heap.size w A3) := hid_intro (hA3 ▸ vb_a (vb_a (vb_t (vb_a HB2.out _) hb3) _) _)
 have HS3 : Hid (Below w3.heap.size w3 A3) := hid_intro (hA3 ▸ vb_a (vb_a (Below.refl _ _) _) _)
 have HP3 : Hid (Below A2.heap.size A2 A3) := hid_intro (vb_t (vb_t (vb_a (Below.refl _ _) _) hb3) HS3.out)
 have HY3 : Hid (Bj A3 (w3.heap.size + 1) #[.int .i64 3, .int .i64 4]) := hid_intro (hA3 ▸ Bj.new' _ _ _ _ (by simp))
 clear hb3 cv3
 have cv4 := Lx.conv_lit A3 _ 9 #[.int .u8 49, .int .u8 101, .int .u8 50, .int .u8 48, .int .u8 48, .int .u8 48, .int .u8 48, .int .u8 48, .int .u8 48] 9 rfl rfl
 go_wp2_with fail
 refine (n4.out _ _ rfl (HE.out.below HB3.out) (HD.out.below HB3.out)).mono ?_
 rintro r w4 ⟨hb4, rfl⟩
 unfold zV7
 obtain ⟨A4, hA4⟩ : ∃ A4, (w4.alloc (.cells #[.int .i64 0, .bool false, .string ⟨#[]⟩, .int .i64 0, .string ⟨#[]⟩, .slice none 0 0, .slice none 0 0] 31)).alloc (.cells #[.int .i64 4, .int .i64 4] 34) = A4 := ⟨_, rfl⟩
 have HB4 : Hid (Below w.heap.size w A4) := hid_intro (hA4 ▸ vb_a (vb_a (vb_t (vb_a HB3.out _) hb4) _) _)
 have HS4 : Hid (Below w4.heap.size w4 A4) := hid_intro (hA4 ▸ vb_a (vb_a (Below.refl _ _) _) _)
 have HP4 : Hid (Below A3.heap.size A3 A4) := hid_intro (vb_t (vb_t (vb_a (Below.refl _ _) _) hb4) HS4.out)
 have HY4 : Hid (Bj A4 (w4.heap.size + 1) #[.int .i64 4, .int .i64 4]) := hid_intro (hA4 ▸ Bj.new' _ _ _ _ (by simp))
 clear hb4 cv4
 have cv5 := Lx.conv_lit A4 _ 5 #[.int .u8 91, .int .u8 91, .int .u8 49, .int .u8 93, .int .u8 93] 5 rfl rfl
 go_wp2_with fail
 refine (n5.out _ _ rfl (HE.out.below HB4.out) (HD.out.below HB4.out)).mono ?_
 rintro r w5 ⟨hb5, rfl⟩
 unfold zV7
 obtain ⟨A5, hA5⟩ : ∃ A5, (w5.alloc (.cells #[.int .i64 0, .bool false, .string ⟨#[]⟩, .int .i64 0, .string ⟨#[]⟩, .slice none 0 0, .slice none 0 0] 31)).alloc (.cells #[.int .i64 4, .int .i64 2] 34) = A5 := ⟨_, rfl⟩
 have HB5 : Hid (Below w.heap.size w A5) := hid_intro (hA5 ▸ vb_a (vb_a (vb_t (vb_a HB4.out _) hb5) _) _)
 have HS5 : Hid (Below w5.heap.size w5 A5) := hid_intro (hA5 ▸ vb_a (vb_a (Below.refl _ _) _) _)
 have HP5 : Hid (Below A4.heap.size A4 A5) := hid_intro (vb_t (vb_t (vb_a (Below.refl _ _) _) hb5) HS5.out)
 have HY5 : Hid (Bj A5 (w5.heap.size + 1) #[.int .i64 4, .int .i64 2]) := hid_intro (hA5 ▸ Bj.new' _ _ _ _ (by simp))
 clear hb5 cv5
 have B15 := (vb_t (vb_t (vb_t HP2.out HP3.out) HP4.out) HP5.out)
 have B25 := (vb_t (vb_t HP3.out HP4.out) HP5.out)
 have B35 := (vb_t HP4.out HP5.out)
 have B45 := HP5.out
 obtain ⟨x0, x1, x2, x3, x4, x5, x6⟩ := (HX1.out.bel B15).c7
 obtain ⟨y10, y11⟩ := (HY1.out.bel B15).c2
 obtain ⟨y20, y21⟩ := (HY2.out.bel B25).c2
 obtain ⟨y30, y31⟩ := (HY3.out.bel B35).c2
 obtain ⟨y40, y41⟩ := (HY4.out.bel B45).c2
 obtain ⟨y50, y51⟩ := HY5.out.c2
 obtain ⟨p0, p1, p2, p3⟩ := HCS.out _ (vb_t HS1.out B15)
 clear B15 B25 B35 B45 HCS
 go_wp2
 go_ret
 exact ⟨rfl, HB5.out⟩
end Go.Proofs.YtfoehebnmommfaaGreatDoor
