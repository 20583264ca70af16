/-
  The values that the heads of layer 6's statements are about, as trees, and what value's calls answer of them. Conditions: the tables as they are laid.
  value.Unique and value.Get of values that may be; value.Equal, by sorted values. Conditions: lists and texts of at most 2^30.
  The heads of layer 6's statements: what must come at any rate comes. Conditions: the tables as they are laid.
-/
import Derived.Test.YtjdboekanmfgpaaGreatDoorJoined18
import Derived.Test.YtjdboekanmfgpaaGreatDoorJoined33
import Derived.Test.YtjdboekanmfgpaaGreatDoorJoined34
import Derived.Test.YtjdboekanmfgpaaGreatDoorJoined35
import Derived.Test.YtjdboekanmfgpaaGreatDoorJoined4
namespace Go.Proofs.YtjdboekanmfgpaaGreatDoor
open Go.RowKit Go.Lib Go.Sort
attribute [local go_sem] setCell_drewN alloc_drewN

def f7 (x0 x1 x2 x3 x4 x5 x6 : Value) : Nat → Value
 | 0 => x0 | 1 => x1 | 2 => x2 | 3 => x3 | 4 => x4 | 5 => x5 | _ => x6
abbrev noT : ByteArray := ⟨#[]⟩
def jNum (s : ByteArray) : JV := .mk 3 false s 0 noT [] []
def jEmp (k : Int) : JV := .mk k false noT 0 noT [] []
def jTwo (x y : JV) (s t : ByteArray) : JV := .mk 6 false noT 0 noT [x, y] [s, t]
def jA : JV := jTwo (jNum ⟨#[49]⟩) (jEmp 5) ⟨#[98]⟩ ⟨#[97]⟩
def jB : JV := jTwo (jEmp 5) (jNum ⟨#[49]⟩) ⟨#[97]⟩ ⟨#[98]⟩
def nuF (s : ByteArray) : Nat → Value := f7 (.int .i64 3) (.bool false) (.string s) (.int .i64 0) (.string noT) (.slice none 0 0) (.slice none 0 0)
def empF (k : Int) : Nat → Value := f7 (.int .i64 k) (.bool false) (.string noT) (.int .i64 0) (.string noT) (.slice none 0 0) (.slice none 0 0)
theorem si_none (w : World) (X : Nat → Prop) : SI w X [] (.slice none 0 0) := ⟨none, 0, rfl, Nat.le_refl _, by unfold maxLen; omega, fun s hs => absurd hs (by simp), .inl rfl⟩
theorem vi_num (w : World) (X : Nat → Prop) (s : ByteArray) (hs : s.size ≤ maxLen) : VI w X (jNum s) (nuF s) :=
 VI.mk none 0 (fun _ _ => .nilIface) rfl rfl rfl rfl rfl rfl (si_none w X) ⟨Nat.le_refl _, by unfold maxLen; omega⟩ ⟨hs, by unfold maxLen; decide⟩ ⟨by decide, by decide⟩ (.inl rfl) (fun i hi => absurd hi (by simp))
theorem vi_emp (w : World) (X : Nat → Prop) (k : Int) (hk : (Lit.int .i64 k).wf = true) : VI w X (jEmp k) (empF k) :=
 VI.mk none 0 (fun _ _ => .nilIface) rfl rfl rfl rfl rfl rfl (si_none w X) ⟨Nat.le_refl _, by unfold maxLen; omega⟩ ⟨by unfold maxLen; decide, by unfold maxLen; decide⟩ ⟨hk, by decide⟩ (.inl rfl) (fun i hi => absurd hi (by simp))
theorem vi_two {w : World} {X : Nat → Prop} {x y : JV} {f g : Nat → Value} {s t : ByteArray} {lb kb : Nat} (hx : VI w X x f) (hy : VI w X y g) (hl : Bx w lb #[f 0, f 1, f 2, f 3, f 4, f 5, f 6, g 0, g 1, g 2, g 3, g 4, g 5, g 6] 28) (hk : Bx w kb #[.string s, .string t] 9) (h1 : ¬ X lb) (h2 : ¬ X kb) (hs : s.size ≤ maxLen) (ht : t.size ≤ maxLen) :
  VI w X (jTwo x y s t) (f7 (.int .i64 6) (.bool false) (.string noT) (.int .i64 0) (.string noT) (.slice (some ⟨lb, 0, none⟩) 2 2) (.slice (some ⟨kb, 0, none⟩) 2 2)) := by
 refine VI.mk (some ⟨lb, 0, none⟩) 2 (fun i => if i = 0 then f else g) rfl rfl rfl rfl rfl rfl ⟨some ⟨kb, 0, none⟩, 2, rfl, Nat.le_refl _, by unfold maxLen; decide, ?_, .inr ⟨kb, 0, rfl, h2, ?_⟩⟩ ⟨Nat.le_refl _, by unfold maxLen; decide⟩ ⟨by unfold maxLen; decide, by unfold maxLen; decide⟩ ⟨by decide, by decide⟩ (.inr ⟨lb, 0, rfl, h1, ?_⟩) ?_
 ·intro q hq
  simp at hq
  rcases hq with rfl | rfl
  ·exact hs
  ·exact ht
 ·intro i hi
  have : i = 0 ∨ i = 1 := by simp at hi; omega
  rcases this with rfl | rfl
  ·exact hk.cell _
  ·exact hk.cell _
 ·intro i hi j hj
  have : i = 0 ∨ i = 1 := by simp at hi; omega
  have hj' : j = 0 ∨ j = 1 ∨ j = 2 ∨ j = 3 ∨ j = 4 ∨ j = 5 ∨ j = 6 := by omega
  rcases this with rfl | rfl <;> rcases hj' with rfl | rfl | rfl | rfl | rfl | rfl | rfl <;> exact hl.cell _
 ·intro i hi
  have : i = 0 ∨ i = 1 := by simp at hi; omega
  rcases this with rfl | rfl
  ·exact hx
  ·exact hy
theorem tx_A : txR jA = ([123, 34, 97, 34, 58, 91, 93, 44, 34, 98, 34, 58, 49, 125], 0) := by kernel_rfl
theorem srt_AB : srt jA = srt jB := by kernel_rfl
theorem may_A : mayB 10000 jA = true := by kernel_rfl
theorem may_B : mayB 10000 jB = true := by kernel_rfl
theorem may_9 : mayB 10000 (jEmp 9) = false := by kernel_rfl
theorem size_A : sizeV jA = 3 := by kernel_rfl
theorem depth_A : depthV vholds jA = 2 := by kernel_rfl
theorem long_A : longV jA = 1 := by kernel_rfl
theorem sm_num (s : ByteArray) (hs : s.size ≤ 1073741824) : Sm (jNum s) := .mk (by decide) (by decide) (fun c h => absurd h (by simp)) hs (by decide) (fun c h => absurd h (by simp))
theorem sm_emp (k : Int) : Sm (jEmp k) := .mk (by decide) (by decide) (fun c h => absurd h (by simp)) (by decide) (by decide) (fun c h => absurd h (by simp))
theorem sm_two {x y : JV} {s t : ByteArray} (hx : Sm x) (hy : Sm y) (hs : s.size ≤ 1073741824) (ht : t.size ≤ 1073741824) : Sm (jTwo x y s t) := by
 refine .mk (by simp) (by simp) (fun c h => ?_) (by decide) (by decide) (fun c h => ?_)
 ·simp at h; rcases h with rfl | rfl
  ·exact hx
  ·exact hy
 ·simp at h; rcases h with rfl | rfl
  ·exact hs
  ·exact ht
theorem sm_A : Sm jA := sm_two (sm_num _ (by decide)) (sm_emp 5) (by decide) (by decide)
theorem sm_B : Sm jB := sm_two (sm_emp 5) (sm_num _ (by decide)) (by decide) (by decide)
/-- How numbers stand. -/
def VG (n : Bool) (g : ByteArray) (e : Int) : Int := V ⟨n, g.data.toList, e⟩
theorem sg_si (x y : Int) : sg x y = si x y := by unfold sg si; rfl
theorem dec_ok : DecOK VG NumG := fun n g e n' g' e' w h1 h2 hs1 hs2 => by
 have := compare_any n n' g g' e e' w hs1 hs2
 unfold NumG at h1 h2
 rw [h1, h2] at this
 simp only [Bool.and_self, if_true, errB, sg_si] at this
 exact this
end Go.Proofs.YtjdboekanmfgpaaGreatDoor

namespace Go.Proofs.YtjdboekanmfgpaaGreatDoor
open Go.RowKit Go.Lib Go.Sort
attribute [local go_sem] setCell_drewN alloc_drewN

/-- Two values compared. -/
def cmpJ (a b : JV) : Int := cmpS VG (srt a) (srt b)
theorem tp_cmpJ : TP (fun _ => True) cmpJ := tp_srt VG
theorem cmpJ_anti (a b : JV) : cmpJ b a = - cmpJ a b := cmpS_anti VG _ _
theorem cmpJ_refl (a : JV) : cmpJ a a = 0 := cmpS_refl VG _
theorem ord_cmpJ (n : Nat) (h : Nat → JV) : OrdAt n (fun i j => cmpJ (h i) (h j)) where
 irr i _ := by rw [cmpJ_refl]; omega
 tr i j k _ _ _ h1 h2 := by
  have := tp_cmpJ.s1 (a := h i) (b := h j) (d := h k) trivial trivial trivial h1 (by omega)
  exact this
 nt i j k _ _ _ h1 h2 := by
  have e1 := cmpJ_anti (h i) (h j)
  have e2 := cmpJ_anti (h j) (h k)
  have e3 := cmpJ_anti (h i) (h k)
  have := tp_cmpJ.trans (h k) (h j) (h i) trivial trivial trivial (by omega) (by omega)
  omega
theorem anti_cmpJ (n : Nat) (h : Nat → JV) : AntiAt n (fun i j => cmpJ (h i) (h j)) := fun _ _ _ _ => cmpJ_anti _ _
def jD : JV := jEmp 0
theorem cmpJ_any (a b : JV) (f f' : Nat → Value) (w : World) (ha : okC NumG a) (hb : okC NumG b) (hva : VI w (fun _ => False) a f) (hvb : VI w (fun _ => False) b f') :
  Calls Tryz.prog 16 #[va f, va f'] w fun r w' => r = .returned (.int .i64 (cmpJ a b)) ∧ Below w.heap.size w w' := vcompare_any VG NumG dec_ok a b f f' w ha hb hva hvb
theorem eqJ_any (a b : JV) (f f' : Nat → Value) (w : World) (ha : okC NumG a) (hb : okC NumG b) (hva : VI w (fun _ => False) a f) (hvb : VI w (fun _ => False) b f') :
  Calls Tryz.prog 14 #[va f, va f'] w fun r w' => r = .returned (.bool (cmpJ a b == 0)) ∧ Below w.heap.size w w' := vequal_any VG NumG dec_ok a b f f' w ha hb hva hvb
theorem vuniq_any (l : List JV) (hn : l.length ≤ 1099511627776) (ok : ∀ v ∈ l, okC NumG v) (lv : Value) (G : Nat → Nat → Value) (w : World) (hl : LI w (fun _ => False) l lv G) :
  Calls Tryz.prog 29 #[lv] w fun r w' => ∃ b : Bool, r = .returned (.bool b) ∧ (b = true ↔ ¬ Alike l.length (fun i j => cmpJ (l.getD i jD) (l.getD j jD))) ∧ Below w.heap.size w w' := by
 refine unique_any l hn lv G w hl _ (ord_cmpJ _ _) (anti_cmpJ _ _) (fun w' hb i j hi hj => ?_)
 have e1 : l.getD i jD = l[i] := by simp [hi]
 have e2 : l.getD j jD = l[j] := by simp [hj]
 rw [e1, e2]
 have hk := (hl.kept hb).choose_spec.choose_spec.2.2.1
 exact cmpJ_any l[i] l[j] (G i) (G j) w' (ok _ (List.getElem_mem hi)) (ok _ (List.getElem_mem hj)) (hk i hi) (hk j hj)
theorem vget_vi (n : Bool) (g : ByteArray) (e : Int) (t : ByteArray) (l : List JV) (ks : List ByteArray) (f : Nat → Value) (key : ByteArray) (w : World) (hs : Sm (.mk 6 n g e t l ks)) (hlen : ks.length = l.length) (hv : VI w (fun _ => False) (.mk 6 n g e t l ks) f) :
  Calls Tryz.prog 21 #[va f, .string key] w (GetP w l ks key) := by
 cases hs with
 | mk s1 s2 s3 s4 s5 s6 =>
 obtain ⟨ao, cap, ko, kc, G, hf, _, _, hr, hl, hk⟩ := hv.open
 rw [hf]
 exact vget_any n g e t l ks ao ko cap kc G key w s3 s1 hlen hr hl hk
/-- What value.Get answers of a number's member. -/
theorem num_shape {w : World} {s : ByteArray} {f : Nat → Value} (h : VI w (fun _ => False) (jNum s) f) : ∃ xa xc ya yc, va f = .agg #[.int .i64 3, .bool false, .string s, .int .i64 0, .string noT, .slice xa 0 xc, .slice ya 0 yc] ∧
  VI w (fun _ => False) (jNum s) (f7 (.int .i64 3) (.bool false) (.string s) (.int .i64 0) (.string noT) (.slice xa 0 xc) (.slice ya 0 yc)) := by
 unfold jNum at *
 cases h with
 | mk ao cap G f0 f1 f2 f3 f4 f5 f6 hc hs hw hl hr =>
 obtain ⟨ko, kc, e6, k1, k2, k3, k4⟩ := f6
 refine ⟨ao, cap, ko, kc, by simp only [va, f0, f1, f2, f3, f4, f5, e6]; rfl, ?_⟩
 exact VI.mk ao cap G rfl rfl rfl rfl rfl rfl ⟨ko, kc, rfl, k1, k2, k3, k4⟩ hc hs hw hl hr
end Go.Proofs.YtjdboekanmfgpaaGreatDoor

namespace Go.Proofs.YtjdboekanmfgpaaGreatDoor
open Go.RowKit Go.Lib Go.Sort
attribute [local go_sem] setCell_drewN alloc_drewN

set_option maxHeartbeats 800000 in
theorem lnum_any (s : ByteArray) (w : World) : Calls Tryz.prog 37 #[.string s] w fun r w' => r = .returned (.agg #[.int .i64 3, .bool false, .string s, .int .i64 0, .string noT, .slice none 0 0, .slice none 0 0]) ∧ Below w.heap.size w w' := by
 have hb : Below w.heap.size w (w.alloc (.cells #[.int .i64 3, .bool false, .string s, .int .i64 0, .string noT, .slice none 0 0, .slice none 0 0] 28)) := vb_a (Below.refl _ _) _
 have hb2 : Below w.heap.size w (w.alloc (.cells #[.int .i64 0, .bool false, .string noT, .int .i64 0, .string noT, .slice none 0 0, .slice none 0 0] 28)) := vb_a (Below.refl _ _) _
 go_enter Tryz.func37, Tryz.ntmps37
 go_wp2_with fail
 first | go_ret | refine bodyPost_ret (v := .agg #[.int .i64 3, .bool false, .string s, .int .i64 0, .string noT, .slice none 0 0, .slice none 0 0]) (by simp [results, Tryz.results37, go_sem, *]) rfl ?_
 refine ⟨rfl, ?_⟩
 first | exact hb | (with_reducible repeat (first | exact hb2 | exact hb | refine vb_s ?_ (Nat.le_refl _) _))

set_option maxRecDepth 100000 in
set_option maxHeartbeats 6400000 in
theorem heads_any (w : World) (hT : Lx.Tab w) (hPw : Pow w) :
  Calls Tryz.prog 13 #[] w fun r w' => r = .returned (.bool true) ∧ Below w.heap.size w w' := by
 have HNM := hid_intro (fun w' => lnum_any ⟨#[49]⟩ w')
 have HT := hid_intro hT
 have HPW := hid_intro hPw
 clear hT hPw
 go_enter Tryz.func13, Tryz.ntmps13
 go_wp2_with fail
 refine (HNM.out _).mono ?_
 rintro r u1 ⟨rfl, hb1⟩
 go_wp2_with fail
 refine (HNM.out _).mono ?_
 rintro r u2 ⟨rfl, hb2⟩
 have hk1 : Bx u1 w.heap.size #[.string ⟨#[98]⟩, .string ⟨#[97]⟩] 9 := (Bx.new w _ _).bel hb1
 have hbw1 : Below w.heap.size w u1 := vb_t (vb_a (Below.refl _ _) _) hb1
 obtain ⟨V1, hV1⟩ : ∃ V1, ((u1.alloc (.cells #[.int .i64 3, .bool false, .string ⟨#[49]⟩, .int .i64 0, .string ⟨#[]⟩, .slice none 0 0, .slice none 0 0, .int .i64 5, .bool false, .string ⟨#[]⟩, .int .i64 0, .string ⟨#[]⟩, .slice none 0 0, .slice none 0 0] 28)).alloc (.cells #[.int .i64 6, .bool false, .string ⟨#[]⟩, .int .i64 0, .string ⟨#[]⟩, .slice (some ⟨u1.heap.size, 0, none⟩) 2 2, .slice (some ⟨w.heap.size, 0, none⟩) 2 2] 28)).alloc (.cells #[.string ⟨#[97]⟩, .string ⟨#[98]⟩] 9) = V1 := ⟨_, rfl⟩
 rw [hV1] at hb2
 have hbV1 : Below u1.heap.size u1 V1 := hV1 ▸ vb_a (vb_a (vb_a (Below.refl _ _) _) _) _
 have hr1 : Bx V1 u1.heap.size #[.int .i64 3, .bool false, .string ⟨#[49]⟩, .int .i64 0, .string ⟨#[]⟩, .slice none 0 0, .slice none 0 0, .int .i64 5, .bool false, .string ⟨#[]⟩, .int .i64 0, .string ⟨#[]⟩, .slice none 0 0, .slice none 0 0] 28 := hV1 ▸ ((Bx.new u1 _ _).al _).al _
 have hbA : Bx V1 (u1.heap.size + 1) #[.int .i64 6, .bool false, .string ⟨#[]⟩, .int .i64 0, .string ⟨#[]⟩, .slice (some ⟨u1.heap.size, 0, none⟩) 2 2, .slice (some ⟨w.heap.size, 0, none⟩) 2 2] 28 := by
  have h := (Bx.new (u1.alloc (.cells #[.int .i64 3, .bool false, .string ⟨#[49]⟩, .int .i64 0, .string ⟨#[]⟩, .slice none 0 0, .slice none 0 0, .int .i64 5, .bool false, .string ⟨#[]⟩, .int .i64 0, .string ⟨#[]⟩, .slice none 0 0, .slice none 0 0] 28)) #[.int .i64 6, .bool false, .string ⟨#[]⟩, .int .i64 0, .string ⟨#[]⟩, .slice (some ⟨u1.heap.size, 0, none⟩) 2 2, .slice (some ⟨w.heap.size, 0, none⟩) 2 2] 28).al (.cells #[.string ⟨#[97]⟩, .string ⟨#[98]⟩] 9)
  rw [hV1] at h
  simpa using h
 have hk2 : Bx V1 (u1.heap.size + 1 + 1) #[.string ⟨#[97]⟩, .string ⟨#[98]⟩] 9 := by
  have h := Bx.new ((u1.alloc (.cells #[.int .i64 3, .bool false, .string ⟨#[49]⟩, .int .i64 0, .string ⟨#[]⟩, .slice none 0 0, .slice none 0 0, .int .i64 5, .bool false, .string ⟨#[]⟩, .int .i64 0, .string ⟨#[]⟩, .slice none 0 0, .slice none 0 0] 28)).alloc (.cells #[.int .i64 6, .bool false, .string ⟨#[]⟩, .int .i64 0, .string ⟨#[]⟩, .slice (some ⟨u1.heap.size, 0, none⟩) 2 2, .slice (some ⟨w.heap.size, 0, none⟩) 2 2] 28)) #[.string ⟨#[97]⟩, .string ⟨#[98]⟩] 9
  rw [hV1] at h
  simpa using h
 obtain ⟨W5, hW5⟩ : ∃ W5, (u2.alloc (.cells #[.int .i64 5, .bool false, .string ⟨#[]⟩, .int .i64 0, .string ⟨#[]⟩, .slice none 0 0, .slice none 0 0, .int .i64 3, .bool false, .string ⟨#[49]⟩, .int .i64 0, .string ⟨#[]⟩, .slice none 0 0, .slice none 0 0] 28)).alloc (.cells #[.int .i64 6, .bool false, .string ⟨#[]⟩, .int .i64 0, .string ⟨#[]⟩, .slice (some ⟨u2.heap.size, 0, none⟩) 2 2, .slice (some ⟨u1.heap.size + 1 + 1, 0, none⟩) 2 2] 28) = W5 := ⟨_, rfl⟩
 have hb5 : Below u2.heap.size u2 W5 := hW5 ▸ vb_a (vb_a (Below.refl _ _) _) _
 have hr2 : Bx W5 u2.heap.size #[.int .i64 5, .bool false, .string ⟨#[]⟩, .int .i64 0, .string ⟨#[]⟩, .slice none 0 0, .slice none 0 0, .int .i64 3, .bool false, .string ⟨#[49]⟩, .int .i64 0, .string ⟨#[]⟩, .slice none 0 0, .slice none 0 0] 28 := hW5 ▸ (Bx.new u2 _ _).al _
 have hbB : Bx W5 (u2.heap.size + 1) #[.int .i64 6, .bool false, .string ⟨#[]⟩, .int .i64 0, .string ⟨#[]⟩, .slice (some ⟨u2.heap.size, 0, none⟩) 2 2, .slice (some ⟨u1.heap.size + 1 + 1, 0, none⟩) 2 2] 28 := by
  have h := Bx.new (u2.alloc (.cells #[.int .i64 5, .bool false, .string ⟨#[]⟩, .int .i64 0, .string ⟨#[]⟩, .slice none 0 0, .slice none 0 0, .int .i64 3, .bool false, .string ⟨#[49]⟩, .int .i64 0, .string ⟨#[]⟩, .slice none 0 0, .slice none 0 0] 28)) #[.int .i64 6, .bool false, .string ⟨#[]⟩, .int .i64 0, .string ⟨#[]⟩, .slice (some ⟨u2.heap.size, 0, none⟩) 2 2, .slice (some ⟨u1.heap.size + 1 + 1, 0, none⟩) 2 2] 28
  rw [hW5] at h
  simpa using h
 have hV5 : Below V1.heap.size V1 W5 := vb_t hb2 hb5
 have hu5 : Below u1.heap.size u1 W5 := vb_t hbV1 hV5
 have hw5 : Below w.heap.size w W5 := vb_t hbw1 hu5
 have hvA : VI W5 (fun _ => False) jA (f7 (.int .i64 6) (.bool false) (.string noT) (.int .i64 0) (.string noT) (.slice (some ⟨u1.heap.size, 0, none⟩) 2 2) (.slice (some ⟨w.heap.size, 0, none⟩) 2 2)) :=
  vi_two (vi_num W5 _ ⟨#[49]⟩ (by unfold maxLen; decide)) (vi_emp W5 _ 5 (by decide)) (hr1.bel hV5) (hk1.bel hu5) (fun h => h) (fun h => h) (by unfold maxLen; decide) (by unfold maxLen; decide)
 have hvB : VI W5 (fun _ => False) jB (f7 (.int .i64 6) (.bool false) (.string noT) (.int .i64 0) (.string noT) (.slice (some ⟨u2.heap.size, 0, none⟩) 2 2) (.slice (some ⟨u1.heap.size + 1 + 1, 0, none⟩) 2 2)) :=
  vi_two (vi_emp W5 _ 5 (by decide)) (vi_num W5 _ ⟨#[49]⟩ (by unfold maxLen; decide)) hr2 (hk2.bel hV5) (fun h => h) (fun h => h) (by unfold maxLen; decide) (by unfold maxLen; decide)
 have HA : Hid (∀ w', Below W5.heap.size W5 w' → ∀ o, w'.cell? ⟨u1.heap.size + 1, o, none⟩ = (#[.int .i64 6, .bool false, .string ⟨#[]⟩, .int .i64 0, .string ⟨#[]⟩, .slice (some ⟨u1.heap.size, 0, none⟩) 2 2, .slice (some ⟨w.heap.size, 0, none⟩) 2 2] : Array Value)[o]?) := hid_intro (fun w' hb o => ((hbA.bel hV5).bel hb).cell o)
 have HB : Hid (∀ w', Below W5.heap.size W5 w' → ∀ o, w'.cell? ⟨u2.heap.size + 1, o, none⟩ = (#[.int .i64 6, .bool false, .string ⟨#[]⟩, .int .i64 0, .string ⟨#[]⟩, .slice (some ⟨u2.heap.size, 0, none⟩) 2 2, .slice (some ⟨u1.heap.size + 1 + 1, 0, none⟩) 2 2] : Array Value)[o]?) := hid_intro (fun w' hb o => (hbB.bel hb).cell o)
 have HVA := hid_intro hvA
 have HVB := hid_intro hvB
 have HW5 := hid_intro hw5
 have CT : Calls Tryz.prog 9 #[.agg #[.int .i64 6, .bool false, .string ⟨#[]⟩, .int .i64 0, .string ⟨#[]⟩, .slice (some ⟨u1.heap.size, 0, none⟩) 2 2, .slice (some ⟨w.heap.size, 0, none⟩) 2 2]] W5 fun r w' => r = .returned (.tuple #[.string ⟨#[123, 34, 97, 34, 58, 91, 93, 44, 34, 98, 34, 58, 49, 125]⟩, .int .i64 0]) ∧ Below W5.heap.size W5 w' := by
  have h := vtext_any jA sm_A _ W5 (HT.out.below hw5) (tab_below HPW.out hw5) hvA (by
   have e : txV (srt jA) = (txR jA).1 := by rw [txR, may_A]; rfl
   rw [e, tx_A]; decide)
  rw [tx_A] at h
  exact h
 have HG : Hid (∀ w', Below W5.heap.size W5 w' → Calls Tryz.prog 21 #[.agg #[.int .i64 6, .bool false, .string ⟨#[]⟩, .int .i64 0, .string ⟨#[]⟩, .slice (some ⟨u1.heap.size, 0, none⟩) 2 2, .slice (some ⟨w.heap.size, 0, none⟩) 2 2], .string ⟨#[98]⟩] w' fun r w'' => ∃ xa xc ya yc, r = .returned (.tuple #[.agg #[.int .i64 3, .bool false, .string ⟨#[49]⟩, .int .i64 0, .string ⟨#[]⟩, .slice xa 0 xc, .slice ya 0 yc], .bool true]) ∧ Hid (VI w'' (fun _ => False) (jNum ⟨#[49]⟩) (f7 (.int .i64 3) (.bool false) (.string ⟨#[49]⟩) (.int .i64 0) (.string noT) (.slice xa 0 xc) (.slice ya 0 yc))) ∧ Below W5.heap.size W5 w'') := hid_intro (fun w' hb => by
  refine (vget_vi false noT 0 noT _ _ _ ⟨#[98]⟩ w' sm_A rfl (hvA.kept hb)).mono ?_
  rintro r w'' ⟨f', b, hr, hbel, h1, h2⟩
  cases b with
  | false => exact absurd (h2 rfl).1 (by decide)
  | true =>
   obtain ⟨i, hi, hk, hv⟩ := h1 rfl
   have hi0 : i = 0 := by
    have : kix ⟨#[98]⟩ [(⟨#[98]⟩ : ByteArray), ⟨#[97]⟩] 0 = some 0 := by kernel_rfl
    rw [this] at hk
    exact (Option.some.inj hk).symm
   subst hi0
   obtain ⟨xa, xc, ya, yc, e1, e2⟩ := num_shape hv
   exact ⟨xa, xc, ya, yc, by rw [hr, e1], hid_intro e2, vb_t hb hbel⟩)
 clear hk1 hbw1 hbV1 hr1 hbA hk2 hb5 hr2 hbB hV5 hu5 hw5 hvA hvB hb1 hb2
 have a0 := HA.out W5 (Below.refl _ _) 0
 have a1 := HA.out W5 (Below.refl _ _) 1
 have a2 := HA.out W5 (Below.refl _ _) 2
 have a3 := HA.out W5 (Below.refl _ _) 3
 have a4 := HA.out W5 (Below.refl _ _) 4
 have a5 := HA.out W5 (Below.refl _ _) 5
 have a6 := HA.out W5 (Below.refl _ _) 6
 go_wp2_with (first | (go_at_call 9; refine CT.mono ?_; rintro r w6 ⟨rfl, hb6⟩; have c0 := HA.out w6 hb6 0; have c1 := HA.out w6 hb6 1; have c2 := HA.out w6 hb6 2; have c3 := HA.out w6 hb6 3; have c4 := HA.out w6 hb6 4; have c5 := HA.out w6 hb6 5; have c6 := HA.out w6 hb6 6) | (go_at_call 21; refine (HG.out _ hb6).mono ?_; rintro r w7 ⟨xa, xc, ya, yc, rfl, hvx, hb7⟩))
 obtain ⟨W8, hW8⟩ : ∃ W8, w7.alloc (.cells #[.int .i64 3, .bool false, .string ⟨#[49]⟩, .int .i64 0, .string ⟨#[]⟩, .slice xa 0 xc, .slice ya 0 yc] 28) = W8 := ⟨_, rfl⟩
 have hb8 : Below w7.heap.size w7 W8 := hW8 ▸ vb_a (Below.refl _ _) _
 have hbX : Bx W8 w7.heap.size #[.int .i64 3, .bool false, .string ⟨#[49]⟩, .int .i64 0, .string ⟨#[]⟩, .slice xa 0 xc, .slice ya 0 yc] 28 := hW8 ▸ Bx.new w7 _ _
 have hb58 : Below W5.heap.size W5 W8 := vb_t hb7 hb8
 have hw8 : Below w.heap.size w W8 := vb_t HW5.out hb58
 have HW8 := hid_intro hw8
 have HS : Hid (∀ w', Below W8.heap.size W8 w' → (∀ o, w'.cell? ⟨u1.heap.size + 1, o, none⟩ = (#[.int .i64 6, .bool false, .string ⟨#[]⟩, .int .i64 0, .string ⟨#[]⟩, .slice (some ⟨u1.heap.size, 0, none⟩) 2 2, .slice (some ⟨w.heap.size, 0, none⟩) 2 2] : Array Value)[o]?) ∧ (∀ o, w'.cell? ⟨u2.heap.size + 1, o, none⟩ = (#[.int .i64 6, .bool false, .string ⟨#[]⟩, .int .i64 0, .string ⟨#[]⟩, .slice (some ⟨u2.heap.size, 0, none⟩) 2 2, .slice (some ⟨u1.heap.size + 1 + 1, 0, none⟩) 2 2] : Array Value)[o]?) ∧ ∀ o, w'.cell? ⟨w7.heap.size, o, none⟩ = (#[.int .i64 3, .bool false, .string ⟨#[49]⟩, .int .i64 0, .string ⟨#[]⟩, .slice xa 0 xc, .slice ya 0 yc] : Array Value)[o]?) := hid_intro (fun w' hb => ⟨HA.out w' (vb_t hb58 hb), HB.out w' (vb_t hb58 hb), fun o => (hbX.bel hb).cell o⟩)
 have hvA8 := HVA.out.kept hb58
 have hvB8 := HVB.out.kept hb58
 have hvX8 := hvx.out.kept hb8
 have okA := may_okC jA 10000 sm_A may_A
 have okB := may_okC jB 10000 sm_B may_B
 have HE1 : Hid (∀ w', Below W8.heap.size W8 w' → Calls Tryz.prog 14 #[.agg #[.int .i64 6, .bool false, .string ⟨#[]⟩, .int .i64 0, .string ⟨#[]⟩, .slice (some ⟨u1.heap.size, 0, none⟩) 2 2, .slice (some ⟨w.heap.size, 0, none⟩) 2 2], .agg #[.int .i64 6, .bool false, .string ⟨#[]⟩, .int .i64 0, .string ⟨#[]⟩, .slice (some ⟨u2.heap.size, 0, none⟩) 2 2, .slice (some ⟨u1.heap.size + 1 + 1, 0, none⟩) 2 2]] w' fun r w'' => r = .returned (.bool true) ∧ Below W8.heap.size W8 w'') := hid_intro (fun w' hb => by
  have h := eqJ_any jA jB _ _ w' okA okB (hvA8.kept hb) (hvB8.kept hb)
  have e : (cmpJ jA jB == 0) = true := by unfold cmpJ; rw [srt_AB, cmpS_refl]; rfl
  rw [e] at h
  exact h.mono fun r w'' ⟨h1, h2⟩ => ⟨h1, vb_t hb h2⟩)
 have HN : Hid (∀ w', Below W8.heap.size W8 w' → Calls Tryz.prog 37 #[.string ⟨#[49]⟩] w' fun r w'' => r = .returned (.agg #[.int .i64 3, .bool false, .string ⟨#[49]⟩, .int .i64 0, .string ⟨#[]⟩, .slice none 0 0, .slice none 0 0]) ∧ Below W8.heap.size W8 w'') := hid_intro (fun w' hb => (HNM.out w').mono fun r w'' ⟨h1, h2⟩ => ⟨h1, vb_t hb h2⟩)
 have HE2 : Hid (∀ w', Below W8.heap.size W8 w' → Calls Tryz.prog 14 #[.agg #[.int .i64 3, .bool false, .string ⟨#[49]⟩, .int .i64 0, .string ⟨#[]⟩, .slice none 0 0, .slice none 0 0], .agg #[.int .i64 2, .bool false, .string ⟨#[]⟩, .int .i64 0, .string ⟨#[]⟩, .slice none 0 0, .slice none 0 0]] w' fun r w'' => r = .returned (.bool false) ∧ Below W8.heap.size W8 w'') := hid_intro (fun w' hb => by
  have h := eqJ_any (jNum ⟨#[49]⟩) (jEmp 2) _ _ w' (may_okC _ 10000 (sm_num _ (by decide)) (by kernel_rfl)) (may_okC _ 10000 (sm_emp 2) (by kernel_rfl)) (vi_num w' _ ⟨#[49]⟩ (by unfold maxLen; decide)) (vi_emp w' _ 2 (by decide))
  have e : (cmpJ (jNum ⟨#[49]⟩) (jEmp 2) == 0) = false := by
   unfold cmpJ
   rw [cmp_kinds VG _ _ (by decide)]
   rfl
  rw [e] at h
  exact h.mono fun r w'' ⟨h1, h2⟩ => ⟨h1, vb_t hb h2⟩)
 have HSM : Hid (∀ w', Below W8.heap.size W8 w' → Calls Tryz.prog 18 #[.agg #[.int .i64 3, .bool false, .string ⟨#[49]⟩, .int .i64 0, .string ⟨#[]⟩, .slice xa 0 xc, .slice ya 0 yc], .agg #[.int .i64 3, .bool false, .string ⟨#[49]⟩, .int .i64 0, .string ⟨#[]⟩, .slice none 0 0, .slice none 0 0]] w' fun r w'' => r = .returned (.bool true) ∧ Below W8.heap.size W8 w'') := hid_intro (fun w' hb => (same_refl (jNum ⟨#[49]⟩) _ _ w' (hvX8.kept hb) (vi_num w' _ ⟨#[49]⟩ (by unfold maxLen; decide))).mono fun r w'' ⟨h1, h2⟩ => ⟨h1, vb_t hb h2⟩)
 have HC9 : Hid (∀ w', Below W8.heap.size W8 w' → Calls Tryz.prog 11 #[.agg #[.int .i64 9, .bool false, .string ⟨#[]⟩, .int .i64 0, .string ⟨#[]⟩, .slice none 0 0, .slice none 0 0]] w' fun r w'' => r = .returned (.int .i64 60) ∧ Below W8.heap.size W8 w'') := hid_intro (fun w' hb => by
  have h := vcheck_any (jEmp 9) (sm_emp 9) _ w' (HT.out.below (vb_t hw8 hb)) (vi_emp w' _ 9 (by decide))
  rw [may_9] at h
  exact h.mono fun r w'' ⟨h1, h2⟩ => ⟨h1, vb_t hb h2⟩)
 have HSZ : Hid (∀ w', Below W8.heap.size W8 w' → Calls Tryz.prog 23 #[.agg #[.int .i64 6, .bool false, .string ⟨#[]⟩, .int .i64 0, .string ⟨#[]⟩, .slice (some ⟨u1.heap.size, 0, none⟩) 2 2, .slice (some ⟨w.heap.size, 0, none⟩) 2 2]] w' fun r w'' => r = .returned (.int .i64 3) ∧ Below W8.heap.size W8 w'') := hid_intro (fun w' hb => by
  have h := size_any jA _ w' (hvA8.kept hb)
  rw [size_A] at h
  exact h.mono fun r w'' ⟨h1, h2⟩ => ⟨h1, vb_t hb h2⟩)
 have HDP : Hid (∀ w', Below W8.heap.size W8 w' → Calls Tryz.prog 27 #[.agg #[.int .i64 6, .bool false, .string ⟨#[]⟩, .int .i64 0, .string ⟨#[]⟩, .slice (some ⟨u1.heap.size, 0, none⟩) 2 2, .slice (some ⟨w.heap.size, 0, none⟩) 2 2]] w' fun r w'' => r = .returned (.int .i64 2) ∧ Below W8.heap.size W8 w'') := hid_intro (fun w' hb => by
  have h := depth_any jA _ w' (hvA8.kept hb)
  rw [depth_A] at h
  exact h.mono fun r w'' ⟨h1, h2⟩ => ⟨h1, vb_t hb h2⟩)
 have HLG : Hid (∀ w', Below W8.heap.size W8 w' → Calls Tryz.prog 25 #[.agg #[.int .i64 6, .bool false, .string ⟨#[]⟩, .int .i64 0, .string ⟨#[]⟩, .slice (some ⟨u1.heap.size, 0, none⟩) 2 2, .slice (some ⟨w.heap.size, 0, none⟩) 2 2]] w' fun r w'' => r = .returned (.int .i64 1) ∧ Below W8.heap.size W8 w'') := hid_intro (fun w' hb => by
  have h := longest_any jA _ w' (hvA8.kept hb)
  rw [long_A] at h
  exact h.mono fun r w'' ⟨h1, h2⟩ => ⟨h1, vb_t hb h2⟩)
 have HUN : Hid (∀ w' b, Below W8.heap.size W8 w' → Bx w' b #[.int .i64 6, .bool false, .string ⟨#[]⟩, .int .i64 0, .string ⟨#[]⟩, .slice (some ⟨u1.heap.size, 0, none⟩) 2 2, .slice (some ⟨w.heap.size, 0, none⟩) 2 2, .int .i64 6, .bool false, .string ⟨#[]⟩, .int .i64 0, .string ⟨#[]⟩, .slice (some ⟨u2.heap.size, 0, none⟩) 2 2, .slice (some ⟨u1.heap.size + 1 + 1, 0, none⟩) 2 2] 28 → Calls Tryz.prog 29 #[.slice (some ⟨b, 0, none⟩) 2 2] w' fun r w'' => r = .returned (.bool false) ∧ Below W8.heap.size W8 w'') := hid_intro (fun w' b hb hx => by
  have hvA9 := hvA8.kept hb
  have hvB9 := hvB8.kept hb
  have hli : LI w' (fun _ => False) [jA, jB] (.slice (some ⟨b, 0, none⟩) 2 2) (fun i => if i = 0 then (f7 (.int .i64 6) (.bool false) (.string noT) (.int .i64 0) (.string noT) (.slice (some ⟨u1.heap.size, 0, none⟩) 2 2) (.slice (some ⟨w.heap.size, 0, none⟩) 2 2)) else (f7 (.int .i64 6) (.bool false) (.string noT) (.int .i64 0) (.string noT) (.slice (some ⟨u2.heap.size, 0, none⟩) 2 2) (.slice (some ⟨u1.heap.size + 1 + 1, 0, none⟩) 2 2))) := by
   refine ⟨some ⟨b, 0, none⟩, 2, rfl, by unfold maxLen; decide, ?_, .inr ⟨b, 0, rfl, fun h => h, hx.lt, ?_⟩⟩
   ·intro i hi
    have : i = 0 ∨ i = 1 := by simp at hi; omega
    rcases this with rfl | rfl
    ·exact hvA9
    ·exact hvB9
   ·intro i hi j hj
    have : i = 0 ∨ i = 1 := by simp at hi; omega
    have hj' : j = 0 ∨ j = 1 ∨ j = 2 ∨ j = 3 ∨ j = 4 ∨ j = 5 ∨ j = 6 := by omega
    rcases this with rfl | rfl <;> rcases hj' with rfl | rfl | rfl | rfl | rfl | rfl | rfl <;> exact hx.cell _
  refine (vuniq_any [jA, jB] (by decide) (fun v hv => by
   simp at hv
   rcases hv with rfl | rfl
   ·exact okA
   ·exact okB) _ _ w' hli).mono ?_
  rintro r w'' ⟨bb, h1, h2, h3⟩
  refine ⟨?_, vb_t hb h3⟩
  rw [h1]
  cases bb with
  | false => rfl
  | true => exact absurd ⟨0, 1, by decide, by decide, by decide, by show cmpJ jA jB = 0; unfold cmpJ; rw [srt_AB, cmpS_refl]⟩ (h2.1 rfl))
 clear hb8 hbX hb58 hw8 hvA8 hvB8 hvX8 okA okB CT HG HA HB HVA HVB a0 a1 a2 a3 a4 a5 a6 hvx HNM
 rw [hW8]
 go_region_held3 (fun w' => (∀ o, w'.cell? ⟨u1.heap.size + 1, o, none⟩ = (#[.int .i64 6, .bool false, .string ⟨#[]⟩, .int .i64 0, .string ⟨#[]⟩, .slice (some ⟨u1.heap.size, 0, none⟩) 2 2, .slice (some ⟨w.heap.size, 0, none⟩) 2 2] : Array Value)[o]?) ∧ (∀ o, w'.cell? ⟨u2.heap.size + 1, o, none⟩ = (#[.int .i64 6, .bool false, .string ⟨#[]⟩, .int .i64 0, .string ⟨#[]⟩, .slice (some ⟨u2.heap.size, 0, none⟩) 2 2, .slice (some ⟨u1.heap.size + 1 + 1, 0, none⟩) 2 2] : Array Value)[o]?) ∧ ∀ o, w'.cell? ⟨w7.heap.size, o, none⟩ = (#[.int .i64 3, .bool false, .string ⟨#[49]⟩, .int .i64 0, .string ⟨#[]⟩, .slice xa 0 xc, .slice ya 0 yc] : Array Value)[o]?) (first | (refine HS.out _ ?_; (with_reducible repeat (first | exact hc | exact Below.refl _ _ | refine vb_d ?_ | refine vb_a ?_ _))) | fail) (first | (go_at_call 14; with_reducible refine (HE1.out _ ?_).mono ?_; (with_reducible repeat (first | exact hc | exact Below.refl _ _ | refine vb_d ?_ | refine vb_a ?_ _)); rintro r wc ⟨rfl, hc⟩) | (go_at_call 37; with_reducible refine (HN.out _ ?_).mono ?_; (with_reducible repeat (first | exact hc | exact Below.refl _ _ | refine vb_d ?_ | refine vb_a ?_ _)); rintro r wc ⟨rfl, hc⟩) | (go_at_call 14; with_reducible refine (HE2.out _ ?_).mono ?_; (with_reducible repeat (first | exact hc | exact Below.refl _ _ | refine vb_d ?_ | refine vb_a ?_ _)); rintro r wc ⟨rfl, hc⟩) | (go_at_call 18; with_reducible refine (HSM.out _ ?_).mono ?_; (with_reducible repeat (first | exact hc | exact Below.refl _ _ | refine vb_d ?_ | refine vb_a ?_ _)); rintro r wc ⟨rfl, hc⟩) | (go_at_call 11; with_reducible refine (HC9.out _ ?_).mono ?_; (with_reducible repeat (first | exact hc | exact Below.refl _ _ | refine vb_d ?_ | refine vb_a ?_ _)); rintro r wc ⟨rfl, hc⟩) | (go_at_call 23; with_reducible refine (HSZ.out _ ?_).mono ?_; (with_reducible repeat (first | exact hc | exact Below.refl _ _ | refine vb_d ?_ | refine vb_a ?_ _)); rintro r wc ⟨rfl, hc⟩) | (go_at_call 27; with_reducible refine (HDP.out _ ?_).mono ?_; (with_reducible repeat (first | exact hc | exact Below.refl _ _ | refine vb_d ?_ | refine vb_a ?_ _)); rintro r wc ⟨rfl, hc⟩) | (go_at_call 29; with_reducible refine (HUN.out _ _ ?_ ?_).mono ?_; (with_reducible repeat (first | exact hc | exact Below.refl _ _ | refine vb_d ?_ | refine vb_a ?_ _)); (first | exact Bx.new _ _ _ | exact (Bx.new _ _ _)); rintro r wc ⟨rfl, hc⟩) | (go_at_call 25; with_reducible refine (HLG.out _ ?_).mono ?_; (with_reducible repeat (first | exact hc | exact Below.refl _ _ | refine vb_d ?_ | refine vb_a ?_ _)); rintro r wc ⟨rfl, hc⟩) | fail)
 all_goals
  go_wp2_with fail
  go_ret
  exact ⟨rfl, vb_t HW8.out hc⟩
end Go.Proofs.YtjdboekanmfgpaaGreatDoor
