/-
  The heads of layer 5's statements: what must come at any rate comes. Conditions: the tables as they are laid.
  Bytes that are cut off and put together; what json.Read answers, told by its verdict. Conditions: as J28's.
  The tokens of a text one behind the other; two rows of bytes that grow beside each other. Conditions: none.
-/
import Derived.Test.YtjakgdaodlgeaaaGreatDoorJoined43
import Derived.Test.YtjakgdaodlgeaaaGreatDoorJoined44
import Derived.Test.YtjakgdaodlgeaaaGreatDoorJoined26
import Derived.Laws.AppendOwnNone
namespace Go.Proofs.YtjakgdaodlgeaaaGreatDoor
open Go.RowKit Go.Maps
attribute [local go_sem] setCell_drewN alloc_drewN

theorem jd1 : judgedS [123, 34, 97, 34, 58, 91, 49, 46, 48, 44, 32, 110, 117, 108, 108, 93, 125] (bm 0 0 0) = .ok (.mk 6 false ⟨#[]⟩ 0 ⟨#[]⟩ [.mk 5 false ⟨#[]⟩ 0 ⟨#[]⟩ [.mk 3 false ⟨#[49]⟩ 0 ⟨#[]⟩ [] [], zeroJ 0] []] [⟨#[97]⟩]) := by kernel_rfl
theorem jd2 : judgedS [123, 34, 97, 34, 58, 49, 44, 34, 97, 34] (bm 0 0 0) = .error (3, 10) := by kernel_rfl
theorem jd3 : judgedS [91, 49, 44] (bm 0 0 0) = .error (3, 4) := by kernel_rfl
theorem jd4 : judgedS [49, 101, 50, 48, 48, 48, 48, 48, 48] (bm 0 0 0) = .error (4, 4) := by kernel_rfl
theorem jd5 : judgedS [91, 91, 49, 93, 93] (bm 1 0 0) = .error (4, 2) := by kernel_rfl
theorem eqIn_verd (r n r' n' : Int) (w : World) :
  (Op.equalIn 10000 34 (.agg #[.int .i64 r, .int .i64 n]) (.agg #[.int .i64 r', .int .i64 n'])).run Tryz.prog w = .ok (decide (r = r' ∧ n = n')) w := by
 have u3 := Tryz.underlying3
 have u4 := Tryz.underlying32
 have a3 := Tryz.isAgg3
 have a4 := Tryz.isAgg32
 have z3 := Tryz.sizeOf3
 have z4 := Tryz.sizeOf32
 have hS : Tryz.prog.underlying 34 = some (.struct (Tryz.prog.fieldsOf 34)) := by kernel_rfl
 have hp : Tryz.prog.stoodInHeld 34 = false := by kernel_rfl
 rw [show (10000 : Nat) = 9999 + 1 from rfl, run_equalIn_agg w 9999 34 _ _ hS hp]
 simp only [Program.fieldsOf, Tryz.underlying34]
 go_simp
 by_cases h1 : r = r' <;> by_cases h2 : n = n' <;> simp [h1, h2]
theorem heads_val {w : World} {X : Nat → Prop} {f : Nat → Value} (h : VI w X (.mk 6 false ⟨#[]⟩ 0 ⟨#[]⟩ [.mk 5 false ⟨#[]⟩ 0 ⟨#[]⟩ [.mk 3 false ⟨#[49]⟩ 0 ⟨#[]⟩ [] [], zeroJ 0] []] [⟨#[97]⟩]) f) :
  ∃ b off cap ko kc b2 off2 cap2, va f = .agg #[.int .i64 6, .bool false, .string ⟨#[]⟩, .int .i64 0, .string ⟨#[]⟩, .slice (some ⟨b, off, none⟩) 1 cap, .slice ko 1 kc] ∧ ∀ w', Below w.heap.size w w' → w'.cell? ⟨b, off + 5, none⟩ = some (.slice (some ⟨b2, off2, none⟩) 2 cap2) ∧ w'.cell? ⟨b2, off2 + 1, none⟩ = some (.bool false) ∧ w'.cell? ⟨b2, off2 + 2, none⟩ = some (.string ⟨#[49]⟩) ∧ w'.cell? ⟨b2, off2 + 3, none⟩ = some (.int .i64 0) := by
 obtain ⟨ao, cap, ko, kc, G, hva, _, _, hr, hl, _⟩ := h.open
 rcases hl with hl | ⟨b, off, rfl, hlt, hc⟩
 ·simp at hl
 have h1 := hr 0 (by simp)
 obtain ⟨ao2, cap2, ko2, kc2, G2, hva2, _, _, hr2, hl2, _⟩ := h1.open
 rcases hl2 with hl2 | ⟨b2, off2, rfl, hlt2, hc2⟩
 ·simp at hl2
 have h3 := hr2 0 (by simp)
 obtain ⟨ao3, cap3, ko3, kc3, G3, hva3, _, _, _, _, _⟩ := h3.open
 have e5 : G 0 5 = .slice (some ⟨b2, off2, none⟩) 2 cap2 := by
  unfold va at hva2
  injection hva2 with hva2
  have := congrArg (fun a : Array Value => a[5]?) hva2
  simpa using this
 have e3 : G2 0 1 = .bool false ∧ G2 0 2 = .string ⟨#[49]⟩ ∧ G2 0 3 = .int .i64 0 := by
  unfold va at hva3
  injection hva3 with hva3
  refine ⟨?_, ?_, ?_⟩
  ·have := congrArg (fun a : Array Value => a[1]?) hva3; simpa using this
  ·have := congrArg (fun a : Array Value => a[2]?) hva3; simpa using this
  ·have := congrArg (fun a : Array Value => a[3]?) hva3; simpa using this
 refine ⟨b, off, cap, ko, kc, b2, off2, cap2, hva, fun w' hb => ⟨?_, ?_, ?_, ?_⟩⟩
 ·rw [hb.cell (p := ⟨b, off + 5, none⟩) hlt, ← e5]; have := hc 0 (by simp) 5 (by omega); simpa using this
 ·rw [hb.cell (p := ⟨b2, off2 + 1, none⟩) hlt2, ← e3.1]; have := hc2 0 (by simp) 1 (by omega); simpa using this
 ·rw [hb.cell (p := ⟨b2, off2 + 2, none⟩) hlt2, ← e3.2.1]; have := hc2 0 (by simp) 2 (by omega); simpa using this
 ·rw [hb.cell (p := ⟨b2, off2 + 3, none⟩) hlt2, ← e3.2.2]; have := hc2 0 (by simp) 3 (by omega); simpa using this
theorem read_lit (l : List UInt8) (x : Except (Int × Int) JV) (cs : Array Value) (n : Nat) (a1 : Int) (w : World) (b : Nat) (a : Addr) (hE : Lx.Env w) (hD : Env w a) (hc : cs = (l.map fun c => Value.int .u8 (c.toNat : Nat)).toArray) (hn : n = l.length) (hb : w.heap.size = b) (hm : l.length ≤ 1000) (hr : judgedS l (bm a1 0 0) = x) :
  Calls Tryz.prog 9 #[.slice (some ⟨b, 0, none⟩) n n, .agg #[.int .i64 a1, .int .i64 0, .int .i64 0, .int .i64 0, .int .i64 0]] (w.alloc (.cells cs 5 (n, n + 1))) (JdR x (w.alloc (.cells cs 5 (n, n + 1)))) := by
 subst hc hn hb hr
 exact read_any l _ a1 0 0 0 0 _ a (hE.below (vb_a (Below.refl _ _) _)) (hD.below (vb_a (Below.refl _ _) _)) (Lx.row_fz w l 5 _ hm)
set_option maxRecDepth 100000 in
set_option maxHeartbeats 3200000 in
theorem heads_any (w : World) (a : Addr) (hE : Lx.Env w) (hD : Env w a) :
  Calls Tryz.prog 14 #[] w fun r w' => r = .returned (.bool true) ∧ Below w.heap.size w w' := by
 have n1 := hid_intro (fun (w' : World) (b : Nat) (hk : w'.heap.size = b) (hE' : Lx.Env w') (hD' : Env w' a) => read_lit [123, 34, 97, 34, 58, 91, 49, 46, 48, 44, 32, 110, 117, 108, 108, 93, 125] _ #[.int .u8 123, .int .u8 34, .int .u8 97, .int .u8 34, .int .u8 58, .int .u8 91, .int .u8 49, .int .u8 46, .int .u8 48, .int .u8 44, .int .u8 32, .int .u8 110, .int .u8 117, .int .u8 108, .int .u8 108, .int .u8 93, .int .u8 125] 17 0 w' b a hE' hD' rfl rfl hk (by decide) jd1)
 have n2 := hid_intro (fun (w' : World) (b : Nat) (hk : w'.heap.size = b) (hE' : Lx.Env w') (hD' : Env w' a) => read_lit [123, 34, 97, 34, 58, 49, 44, 34, 97, 34] _ #[.int .u8 123, .int .u8 34, .int .u8 97, .int .u8 34, .int .u8 58, .int .u8 49, .int .u8 44, .int .u8 34, .int .u8 97, .int .u8 34] 10 0 w' b a hE' hD' rfl rfl hk (by decide) jd2)
 have n3 := hid_intro (fun (w' : World) (b : Nat) (hk : w'.heap.size = b) (hE' : Lx.Env w') (hD' : Env w' a) => read_lit [91, 49, 44] _ #[.int .u8 91, .int .u8 49, .int .u8 44] 3 0 w' b a hE' hD' rfl rfl hk (by decide) jd3)
 have n4 := hid_intro (fun (w' : World) (b : Nat) (hk : w'.heap.size = b) (hE' : Lx.Env w') (hD' : Env w' a) => read_lit [49, 101, 50, 48, 48, 48, 48, 48, 48] _ #[.int .u8 49, .int .u8 101, .int .u8 50, .int .u8 48, .int .u8 48, .int .u8 48, .int .u8 48, .int .u8 48, .int .u8 48] 9 0 w' b a hE' hD' rfl rfl hk (by decide) jd4)
 have n5 := hid_intro (fun (w' : World) (b : Nat) (hk : w'.heap.size = b) (hE' : Lx.Env w') (hD' : Env w' a) => read_lit [91, 91, 49, 93, 93] _ #[.int .u8 91, .int .u8 91, .int .u8 49, .int .u8 93, .int .u8 93] 5 1 w' b a hE' hD' rfl rfl hk (by decide) jd5)
 have HE := hid_intro hE
 have HD := hid_intro hD
 have v1 : ∀ w, (Op.equalIn 10000 34 (.agg #[.int .i64 1, .int .i64 0]) (.agg #[.int .i64 1, .int .i64 0])).run Tryz.prog w = .ok true w := fun w => by rw [eqIn_verd]; rfl
 have v310 : ∀ w, (Op.equalIn 10000 34 (.agg #[.int .i64 3, .int .i64 10]) (.agg #[.int .i64 3, .int .i64 10])).run Tryz.prog w = .ok true w := fun w => by rw [eqIn_verd]; rfl
 have v34 : ∀ w, (Op.equalIn 10000 34 (.agg #[.int .i64 3, .int .i64 4]) (.agg #[.int .i64 3, .int .i64 4])).run Tryz.prog w = .ok true w := fun w => by rw [eqIn_verd]; rfl
 have v44 : ∀ w, (Op.equalIn 10000 34 (.agg #[.int .i64 4, .int .i64 4]) (.agg #[.int .i64 4, .int .i64 4])).run Tryz.prog w = .ok true w := fun w => by rw [eqIn_verd]; rfl
 have v42 : ∀ w, (Op.equalIn 10000 34 (.agg #[.int .i64 4, .int .i64 2]) (.agg #[.int .i64 4, .int .i64 2])).run Tryz.prog w = .ok true w := fun w => by rw [eqIn_verd]; rfl
 have hdec := eqIn_same false ⟨#[49]⟩ 0
 clear hE hD
 go_enter Tryz.func14, Tryz.ntmps14
 have cv1 := Lx.conv_lit w _ 17 #[.int .u8 123, .int .u8 34, .int .u8 97, .int .u8 34, .int .u8 58, .int .u8 91, .int .u8 49, .int .u8 46, .int .u8 48, .int .u8 44, .int .u8 32, .int .u8 110, .int .u8 117, .int .u8 108, .int .u8 108, .int .u8 93, .int .u8 125] 17 rfl rfl
 go_wp2_with fail
 refine (n1.out _ _ rfl HE.out HD.out).mono ?_
 rintro r w1 ⟨hb1, f1, rfl, hv1⟩
 obtain ⟨b, off, cap, ko, kc, b2, off2, cap2, hva, hcs⟩ := heads_val hv1
 have HCS := hid_intro hcs
 rw [hva]
 clear hva hv1 hcs
 obtain ⟨A1, hA1⟩ : ∃ A1, (w1.alloc (.cells #[.int .i64 6, .bool false, .string ⟨#[]⟩, .int .i64 0, .string ⟨#[]⟩, .slice (some ⟨b, off, none⟩) 1 cap, .slice ko 1 kc] 31)).alloc (.cells #[.int .i64 1, .int .i64 0] 34) = A1 := ⟨_, rfl⟩
 have HB1 : Hid (Below w.heap.size w A1) := hid_intro (hA1 ▸ vb_a (vb_a (vb_t (vb_a (Below.refl w.heap.size w) _) hb1) _) _)
 have HS1 : Hid (Below w1.heap.size w1 A1) := hid_intro (hA1 ▸ vb_a (vb_a (Below.refl _ _) _) _)
 have HX1 : Hid (Bj A1 w1.heap.size #[.int .i64 6, .bool false, .string ⟨#[]⟩, .int .i64 0, .string ⟨#[]⟩, .slice (some ⟨b, off, none⟩) 1 cap, .slice ko 1 kc]) := hid_intro (hA1 ▸ (Bj.new _ _ _).al _)
 have HY1 : Hid (Bj A1 (w1.heap.size + 1) #[.int .i64 1, .int .i64 0]) := hid_intro (hA1 ▸ Bj.new' _ _ _ _ (by simp))
 clear hb1 cv1
 have HA1 := hid_intro hA1
 have hz1 : A1.heap.size = w1.heap.size + 1 + 1 := by rw [← hA1]; simp
 have HZ1 := hid_intro hz1
 clear hA1 hz1
 have cv2 := Lx.conv_lit ((w1.alloc (.cells #[.int .i64 6, .bool false, .string ⟨#[]⟩, .int .i64 0, .string ⟨#[]⟩, .slice (some ⟨b, off, none⟩) 1 cap, .slice ko 1 kc] 31)).alloc (.cells #[.int .i64 1, .int .i64 0] 34)) (w1.heap.size + 1 + 1) 10 #[.int .u8 123, .int .u8 34, .int .u8 97, .int .u8 34, .int .u8 58, .int .u8 49, .int .u8 44, .int .u8 34, .int .u8 97, .int .u8 34] 10 (by simp) rfl
 go_wp2_with fail
 rw [HA1.out]
 refine (n2.out _ _ HZ1.out (HE.out.below HB1.out) (HD.out.below HB1.out)).mono ?_
 rintro r w2 ⟨hb2, rfl⟩
 unfold zV7
 obtain ⟨A2, hA2⟩ : ∃ A2, (w2.alloc (.cells #[.int .i64 0, .bool false, .string ⟨#[]⟩, .int .i64 0, .string ⟨#[]⟩, .slice none 0 0, .slice none 0 0] 31)).alloc (.cells #[.int .i64 3, .int .i64 10] 34) = A2 := ⟨_, rfl⟩
 have HB2 : Hid (Below w.heap.size w A2) := hid_intro (hA2 ▸ vb_a (vb_a (vb_t (vb_a HB1.out _) hb2) _) _)
 have HS2 : Hid (Below w2.heap.size w2 A2) := hid_intro (hA2 ▸ vb_a (vb_a (Below.refl _ _) _) _)
 have HP2 : Hid (Below A1.heap.size A1 A2) := hid_intro (vb_t (vb_t (vb_a (Below.refl _ _) _) hb2) HS2.out)
 have HY2 : Hid (Bj A2 (w2.heap.size + 1) #[.int .i64 3, .int .i64 10]) := hid_intro (hA2 ▸ Bj.new' _ _ _ _ (by simp))
 clear hb2 cv2
 have cv3 := Lx.conv_lit A2 _ 3 #[.int .u8 91, .int .u8 49, .int .u8 44] 3 rfl rfl
 go_wp2_with fail
 refine (n3.out _ _ rfl (HE.out.below HB2.out) (HD.out.below HB2.out)).mono ?_
 rintro r w3 ⟨hb3, rfl⟩
 unfold zV7
 obtain ⟨A3, hA3⟩ : ∃ A3, (w3.alloc (.cells #[.int .i64 0, .bool false, .string ⟨#[]⟩, .int .i64 0, .string ⟨#[]⟩, .slice none 0 0, .slice none 0 0] 31)).alloc (.cells #[.int .i64 3, .int .i64 4] 34) = A3 := ⟨_, rfl⟩
 have HB3 : Hid (Below w.heap.size w A3) := hid_intro (hA3 ▸ vb_a (vb_a (vb_t (vb_a HB2.out _) hb3) _) _)
 have HS3 : Hid (Below w3.heap.size w3 A3) := hid_intro (hA3 ▸ vb_a (vb_a (Below.refl _ _) _) _)
 have HP3 : Hid (Below A2.heap.size A2 A3) := hid_intro (vb_t (vb_t (vb_a (Below.refl _ _) _) hb3) HS3.out)
 have HY3 : Hid (Bj A3 (w3.heap.size + 1) #[.int .i64 3, .int .i64 4]) := hid_intro (hA3 ▸ Bj.new' _ _ _ _ (by simp))
 clear hb3 cv3
 have cv4 := Lx.conv_lit A3 _ 9 #[.int .u8 49, .int .u8 101, .int .u8 50, .int .u8 48, .int .u8 48, .int .u8 48, .int .u8 48, .int .u8 48, .int .u8 48] 9 rfl rfl
 go_wp2_with fail
 refine (n4.out _ _ rfl (HE.out.below HB3.out) (HD.out.below HB3.out)).mono ?_
 rintro r w4 ⟨hb4, rfl⟩
 unfold zV7
 obtain ⟨A4, hA4⟩ : ∃ A4, (w4.alloc (.cells #[.int .i64 0, .bool false, .string ⟨#[]⟩, .int .i64 0, .string ⟨#[]⟩, .slice none 0 0, .slice none 0 0] 31)).alloc (.cells #[.int .i64 4, .int .i64 4] 34) = A4 := ⟨_, rfl⟩
 have HB4 : Hid (Below w.heap.size w A4) := hid_intro (hA4 ▸ vb_a (vb_a (vb_t (vb_a HB3.out _) hb4) _) _)
 have HS4 : Hid (Below w4.heap.size w4 A4) := hid_intro (hA4 ▸ vb_a (vb_a (Below.refl _ _) _) _)
 have HP4 : Hid (Below A3.heap.size A3 A4) := hid_intro (vb_t (vb_t (vb_a (Below.refl _ _) _) hb4) HS4.out)
 have HY4 : Hid (Bj A4 (w4.heap.size + 1) #[.int .i64 4, .int .i64 4]) := hid_intro (hA4 ▸ Bj.new' _ _ _ _ (by simp))
 clear hb4 cv4
 have cv5 := Lx.conv_lit A4 _ 5 #[.int .u8 91, .int .u8 91, .int .u8 49, .int .u8 93, .int .u8 93] 5 rfl rfl
 go_wp2_with fail
 refine (n5.out _ _ rfl (HE.out.below HB4.out) (HD.out.below HB4.out)).mono ?_
 rintro r w5 ⟨hb5, rfl⟩
 unfold zV7
 obtain ⟨A5, hA5⟩ : ∃ A5, (w5.alloc (.cells #[.int .i64 0, .bool false, .string ⟨#[]⟩, .int .i64 0, .string ⟨#[]⟩, .slice none 0 0, .slice none 0 0] 31)).alloc (.cells #[.int .i64 4, .int .i64 2] 34) = A5 := ⟨_, rfl⟩
 have HB5 : Hid (Below w.heap.size w A5) := hid_intro (hA5 ▸ vb_a (vb_a (vb_t (vb_a HB4.out _) hb5) _) _)
 have HS5 : Hid (Below w5.heap.size w5 A5) := hid_intro (hA5 ▸ vb_a (vb_a (Below.refl _ _) _) _)
 have HP5 : Hid (Below A4.heap.size A4 A5) := hid_intro (vb_t (vb_t (vb_a (Below.refl _ _) _) hb5) HS5.out)
 have HY5 : Hid (Bj A5 (w5.heap.size + 1) #[.int .i64 4, .int .i64 2]) := hid_intro (hA5 ▸ Bj.new' _ _ _ _ (by simp))
 clear hb5 cv5
 have B15 := (vb_t (vb_t (vb_t HP2.out HP3.out) HP4.out) HP5.out)
 have B25 := (vb_t (vb_t HP3.out HP4.out) HP5.out)
 have B35 := (vb_t HP4.out HP5.out)
 have B45 := HP5.out
 obtain ⟨x0, x1, x2, x3, x4, x5, x6⟩ := (HX1.out.bel B15).c7
 obtain ⟨y10, y11⟩ := (HY1.out.bel B15).c2
 obtain ⟨y20, y21⟩ := (HY2.out.bel B25).c2
 obtain ⟨y30, y31⟩ := (HY3.out.bel B35).c2
 obtain ⟨y40, y41⟩ := (HY4.out.bel B45).c2
 obtain ⟨y50, y51⟩ := HY5.out.c2
 obtain ⟨p0, p1, p2, p3⟩ := HCS.out _ (vb_t HS1.out B15)
 clear B15 B25 B35 B45 HCS
 go_wp2
 go_ret
 exact ⟨rfl, HB5.out⟩
end Go.Proofs.YtjakgdaodlgeaaaGreatDoor

namespace Go.Proofs.YtjakgdaodlgeaaaGreatDoor
open Go.RowKit Go.Maps

theorem infoU8 : (Tryz.prog.info? 5).map (fun i => (i.zero, i.size, i.bytes)) = some (some (.int .u8 0), 1, 1) := by kernel_rfl
theorem cellsL_len (l : List UInt8) : (Lx.cellsL l).length = l.length := by simp [Lx.cellsL]
theorem cellsL_app (a b : List UInt8) : Lx.cellsL (a ++ b) = Lx.cellsL a ++ Lx.cellsL b := by simp [Lx.cellsL]
def vr (x : Except (Int × Int) JV) : Int × Int := match x with
 | .error p => p
 | .ok _ => (1, 0)
theorem JdR.lit {x : Except (Int × Int) JV} {w : World} {r : Ending} {w' : World} (h : JdR x w r w') : Below w.heap.size w w' ∧ ∃ k n g e t a1 m1 c1 a2 m2 c2, r = .returned (.tuple #[.agg #[.int .i64 k, .bool n, .string g, .int .i64 e, .string t, .slice a1 m1 c1, .slice a2 m2 c2], .agg #[.int .i64 (vr x).1, .int .i64 (vr x).2]]) := by
 refine ⟨h.1, ?_⟩
 cases x with
 | error p => exact ⟨0, false, ⟨#[]⟩, 0, ⟨#[]⟩, none, 0, 0, none, 0, 0, h.2⟩
 | ok y =>
  obtain ⟨f, hr, hv⟩ := h.2
  obtain ⟨k, n, g, e, t, a1, m1, c1, a2, m2, c2, hva, _⟩ := hv.lit
  exact ⟨k, n, g, e, t, a1, m1, c1, a2, m2, c2, by rw [hr, hva]; rfl⟩
theorem byt_own {w : World} {B : Nat} {v : Value} {l : List UInt8} (h : w.ownsRow B 5 1 v l.length (Lx.cellsL l)) : Lx.Byt w v l := by
 unfold Lx.Byt
 rcases h.2 with ⟨rfl, h0⟩ | ⟨g, cap, cur, rfl, hb, hg, hc, hm, hs, ht⟩
 ·exact .inl ⟨h0, none, 0, rfl, fun _ => rfl⟩
 ·refine .inr ⟨g, 0, cap, rfl, hc, hm, ⟨fun i hi => ?_, Lx.bx_lo _, Lx.bx_hi _⟩⟩
  rw [Nat.zero_add, h.cellAt i (by omega)]
  simp [Lx.cellsL, Lx.bx, hi]
end Go.Proofs.YtjakgdaodlgeaaaGreatDoor

namespace Go.Proofs.YtjakgdaodlgeaaaGreatDoor
open Go.RowKit Go.Maps

inductive Tks (l : List UInt8) : Nat → Prop
 | nil {i : Nat} (he : Lx.pass l Lx.blankB i = l.length) : Tks l i
 | cons {i : Nat} {t : Lx.Tok} (hp : Lx.pass l Lx.blankB i < l.length) (hr : Lx.readL l (Lx.pass l Lx.blankB i) = .ok t) (ht : Tks l t.to) : Tks l i
theorem wp_app_at {w : World} {ops : Array Oper} {rest : List Oper} {o : Oper} {a : Act} {Q : Exit → Act → World → Prop} (hgd : o.guard = none) (s x : Operand)
  (ho : o.op = .call { callee := .builtin .append, args := #[s, x], argTypes := #[22, 22] }) (base : Nat) (v : Value) (xs : List UInt8) (hs : a.eval s = v) (v1 : Value) (ys : List UInt8) (hx : a.eval x = v1)
  (hb : xs.length + ys.length ≤ 1000000) (hy : ys ≠ []) (hown : w.ownsRow base 5 1 v xs.length (Lx.cellsL xs)) (hR : Lx.Byt w v1 ys) (hbase : base ≤ w.heap.size)
  (h : ∀ v' w', w'.ownsRow base 5 1 v' (xs ++ ys).length (Lx.cellsL (xs ++ ys)) → w.grownBy w' v.ownBlock → (v'.ownBlock = v.ownBlock ∨ v'.ownBlock = some w.heap.size) → wpList Tryz.prog ops Q rest (a.put o.dst v') w') : wpList Tryz.prog ops Q (o :: rest) a w := by
 obtain ⟨i0, hi, hz0, hz1, hz2⟩ := info_parts infoU8
 unfold Lx.Byt at hR
 rcases hR with ⟨h0, _⟩ | ⟨b, off, cap, rfl, hc, hm, hL⟩
 ·exact absurd (List.eq_nil_of_length_eq_zero h0) hy
 ·refine wpList_append_own_at _ hgd s x 22 ho base 5 i0 (.int .u8 0) 1 1 Tryz.underlying22 hi hz0 hz1 hz2 rfl (by decide) v xs.length (Lx.cellsL xs) hs hown ⟨b, off, none⟩ ys.length cap (Lx.cellsL ys) hx (by rw [cellsL_len]; omega) (fun j u hj => ?_) (fun u hu => ?_) (by unfold maxLen; omega) (by omega) hbase ?_
  ·have hlt : j < ys.length := by have := (List.getElem?_eq_some_iff.1 hj).1; rwa [cellsL_len] at this
   rw [Lx.add_at, hL.cell j hlt, ← hj]
   simp [Lx.cellsL, Lx.bx, hlt]
  ·simp only [Lx.cellsL, List.mem_map] at hu
   obtain ⟨i, _, rfl⟩ := hu
   rfl
  ·intro v' w' h1 h2 _ h4
   refine h v' w' ?_ h2 h4
   rw [cellsL_app, List.length_append]
   exact h1
structure Two (B : Nat) (vW vB : Value) (Wd Br : List UInt8) (w : World) : Prop where
 ow : w.ownsRow B 5 1 vW Wd.length (Lx.cellsL Wd)
 ob : w.ownsRow B 5 1 vB Br.length (Lx.cellsL Br)
 ne : ∀ g, vW.ownBlock = some g → vB.ownBlock ≠ some g
theorem Two.nil (B : Nat) (w : World) : Two B (.slice none 0 0) (.slice none 0 0) [] [] w := ⟨World.ownsRow_nil w B _ 1, World.ownsRow_nil w B _ 1, fun g h => by cases h⟩
theorem Two.bel {B : Nat} {vW vB : Value} {Wd Br : List UInt8} {w w' : World} (h : Two B vW vB Wd Br w) (hb : Below w.heap.size w w') : Two B vW vB Wd Br w' :=
 ⟨own_keep h.ow fun b hb' => hb.block b (own_lt h.ow b hb').2, own_keep h.ob fun b hb' => hb.block b (own_lt h.ob b hb').2, h.ne⟩
theorem Two.bare {B : Nat} {vW vB vB' : Value} {Wd Br Br' : List UInt8} {w w' : World} (h : Two B vW vB Wd Br w) (ho : w'.ownsRow B 5 1 vB' Br'.length (Lx.cellsL Br')) (hg : w.grownBy w' vB.ownBlock) (h4 : vB'.ownBlock = vB.ownBlock ∨ vB'.ownBlock = some w.heap.size) : Two B vW vB' Wd Br' w' := by
 refine ⟨own_keep h.ow fun b hb => hg.block b (own_lt h.ow b hb).2 (fun e => ?_), ho, fun g hg1 hg2 => ?_⟩
 ·exact h.ne b (by simpa using hb) e.symm
 ·rcases h4 with h4 | h4
  ·exact h.ne g hg1 (by rw [← h4]; exact hg2)
  ·rw [h4] at hg2
   injection hg2 with hg2
   have := (h.ow.lt g hg1).2
   omega
theorem Bj.grown {w w' : World} {b : Nat} {cs : Array Value} {o : Option Nat} (h : Bj w b cs) (hg : w.grownBy w' o) (hne : o ≠ some b) : Bj w' b cs := by
 obtain ⟨T, hT⟩ := h
 exact ⟨T, (hg.block b (Bj.lt ⟨T, hT⟩) (fun e => hne e.symm)).trans hT⟩
end Go.Proofs.YtjakgdaodlgeaaaGreatDoor
