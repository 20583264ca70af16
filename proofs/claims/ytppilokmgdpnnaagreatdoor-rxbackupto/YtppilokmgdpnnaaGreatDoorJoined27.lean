/-
  What (*rx.writer).setText answers: a set as an atom. Conditions: as classText's; the writer's row of named sets lies as it was made.
  A writer and what (*rx.writer).put does: the text stands behind what was written. Conditions: at most 2^46 bytes are written.
  What rx.countText answers: a repeat's count. Conditions: the count may be; the library's table of powers of ten as the program lays it.
  How many states a tree has, and counting them up to a limit. No condition.
  The counter's sum and product. Conditions: nothing is below 0.
-/
import Derived.Test.YtppilokmgdpnnaaGreatDoorJoined25
import Derived.Test.YtppilokmgdpnnaaGreatDoorJoined26
import Derived.Lib.AppendStr
import Derived.Test.YtppilokmgdpnnaaGreatDoorJoined7
import Derived.BigQuiet
namespace Go.Proofs.YtppilokmgdpnnaaGreatDoor
open Go.RowKit Go.Sort
attribute [local go_sem] setCell_drewN alloc_drewN

/-- A row of named sets in a world. -/
def NS (w : World) (n : List (List UInt8 × List (Int × Int))) (v : Value) : Prop :=
  ∃ b off cap, v = .slice (some ⟨b, off, none⟩) n.length cap ∧ n.length ≤ cap ∧ cap ≤ maxLen ∧ n.length ≤ 1000 ∧ ∀ i (h : i < n.length), w.cell? ⟨b, off + i * 2, none⟩ = some (.string (bsx (n[i]).1)) ∧ ∃ rv, w.cell? ⟨b, off + i * 2 + 1, none⟩ = some rv ∧ RI w (fun _ => False) (n[i]).2 rv
theorem NS.kept {w w' : World} {n : List (List UInt8 × List (Int × Int))} {v : Value} (h : NS w n v) (hb : Below w.heap.size w w') : NS w' n v := by
  obtain ⟨b, off, cap, rfl, h1, h2, h3, h4⟩ := h
  refine ⟨b, off, cap, rfl, h1, h2, h3, fun i hi => ?_⟩
  obtain ⟨p, rv, q, r⟩ := h4 i hi
  exact ⟨bcell p hb, rv, bcell q hb, r.kept hb⟩
def synT : List UInt8 := [94, 36, 92, 46, 42, 43, 63, 40, 41, 91, 93, 123, 125, 124]
def findN : List (List UInt8 × List (Int × Int)) → List (Int × Int) → List UInt8
  | [], l => clsTx l
  | n :: ns, l => if n.2 = l then n.1 else findN ns l
def setL (n : List (List UInt8 × List (Int × Int))) (l : List (Int × Int)) : List UInt8 :=
  if l.length = 1 ∧ (ra l 0).1 = (ra l 0).2 then pointL (ra l 0).1.toNat synT else findN n l
set_option maxRecDepth 100000 in
set_option maxHeartbeats 1600000 in
theorem set_one (n : List (List UInt8 × List (Int × Int))) (wb : Nat) (l : List (Int × Int)) (v : Value) (w : World) (X : Nat → Prop) (hX : TX w) (hR : RI w X l v) (hok : ∀ r ∈ l, okR r) (h1 : l.length = 1) (h2 : (ra l 0).1 = (ra l 0).2) :
    Calls Tryz.prog 55 #[.pointer (some ⟨wb, 0, none⟩), v] w fun r w' => r = .returned (.string (bsx (setL n l))) ∧ Below w.heap.size w w' := by
  obtain ⟨P, hP⟩ : ∃ P : Ending → World → Prop, P = fun r w' => r = .returned (.string (bsx (setL n l))) ∧ Below w.heap.size w w' := ⟨_, rfl⟩
  rw [← hP]
  have HP := hid_intro hP
  have HS : Hid (setL n l = pointL (ra l 0).1.toNat synT) := hid_intro (by unfold setL; rw [if_pos ⟨h1, h2⟩])
  obtain ⟨ao, cap, rfl, hc, hcm, hwf, hlie⟩ := hR
  rcases hlie with hlie | ⟨b, off, rfl, _, hcell⟩
  · rw [hlie] at h1; simp at h1
  obtain ⟨q0, q1⟩ := hcell 0 (by omega)
  obtain ⟨x0, x1, x2⟩ := hok _ (ra_mem (show 0 < l.length by omega))
  rw [← h2] at q1 x1 x2
  generalize (ra l 0).1 = x at *
  obtain ⟨a, rfl⟩ := Int.eq_ofNat_of_zero_le x0
  have HPT := hid_intro (fun w' (hb : Below w.heap.size w w') => point_any a ⟨synT.toArray⟩ w' (hX.below hb) (by decide) (by omega))
  rw [h1] at hc
  rw [h1]
  clear hP hX hok hcell h1 h2 x0 x1 x2 hwf
  rw [Nat.zero_mul, Nat.add_zero] at q0 q1
  go_enter Tryz.func55, Tryz.ntmps55
  go_wp2_with fail
  go_region
  all_goals
    go_wp2_with fail
    refine (HPT.out _ (vb_d (Below.refl _ _))).mono ?_; rintro r w1 ⟨rfl, hb1⟩
    go_wp2_with fail
    rw [HP.out, HS.out]
    exact ⟨rfl, vb_t (vb_d (Below.refl _ _)) hb1⟩
theorem findN_drop (n : List (List UInt8 × List (Int × Int))) (l : List (Int × Int)) (k : Nat) (h : k < n.length) : findN (n.drop k) l = if (n[k]).2 = l then (n[k]).1 else findN (n.drop (k + 1)) l := by
  rw [List.drop_eq_getElem_cons h]; rfl
set_option maxRecDepth 100000 in
set_option maxHeartbeats 1600000 in
theorem set_len (n : List (List UInt8 × List (Int × Int))) (nv : Value) (wb : Nat) (l : List (Int × Int)) (v : Value) (w : World) (X : Nat → Prop) (hX : TX w) (hR : RI w X l v) (hN : NS w n nv) (hw1 : w.cell? ⟨wb, 1, none⟩ = some nv) (hok : ∀ r ∈ l, okR r) (hl : l.length ≤ 1073741823) (h1 : l.length ≠ 1) :
    Calls Tryz.prog 55 #[.pointer (some ⟨wb, 0, none⟩), v] w fun r w' => r = .returned (.string (bsx (setL n l))) ∧ Below w.heap.size w w' := by
  obtain ⟨P, hP⟩ : ∃ P : Ending → World → Prop, P = fun r w' => r = .returned (.string (bsx (setL n l))) ∧ Below w.heap.size w w' := ⟨_, rfl⟩
  rw [← hP]
  have HP := hid_intro hP
  have HS : Hid (setL n l = findN n l) := hid_intro (by unfold setL; rw [if_neg (fun h => h1 h.1)])
  have HC := hid_intro (fun w' (hb : Below w.heap.size w w') => classT_any l v w' X (hX.below hb) (hR.kept hb) hok hl)
  have HQ := hid_intro (fun w' (hb : Below w.heap.size w w') r rv (hr : RI w' (fun _ => False) r rv) => equal_any r l rv v w' _ X hr (hR.kept hb))
  have HN := hid_intro hN
  obtain ⟨nb, noff, ncap, rfl, hn1, hn2, hn3, -⟩ := hN
  obtain ⟨ao, cap, rfl, -⟩ := hR
  have hlen : ((l.length : Int) == 1) = false := by simp; omega
  clear h1
  have hnI : (n.length : Int) ≤ 1000 := by omega
  clear hP hX hok hl hn1 hn2
  go_enter Tryz.func55, Tryz.ntmps55
  go_wp2_with fail
  go_region
  all_goals
    go_wp2_with fail
    go_loopg [31] n.length (fun m s31 wr => ∃ k : Nat, k ≤ n.length ∧ m = n.length - k ∧ s31 = .int .i64 (k : Int) ∧ Hid (findN n l = findN (n.drop k) l) ∧ Hid (Below w.heap.size w wr))
    case atStart => exact ⟨0, Nat.zero_le _, rfl, rfl, hid_intro rfl, hid_intro (vb_d (Below.refl _ _))⟩
    case round =>
      obtain ⟨k, hk, rfl, rfl, HF, HL⟩ := hrel
      by_cases hlt : k < n.length
      · have HNr := HN.out.kept HL.out
        obtain ⟨nb', noff', ncap', he, -, -, -, h4⟩ := HNr
        injection he with he1 he2 he3
        injection he1 with he1
        injection he1 with he4 he5
        subst he4 he5
        obtain ⟨q0, rv, q1, hri⟩ := h4 k hlt
        have hI : (k : Int) < (n.length : Int) := by omega
        have HD := hid_intro (findN_drop n l k hlt)
        obtain ⟨ao2, cap2, rfl, _⟩ := hri.shape
        have HRI := hid_intro hri
        generalize n[k] = nn at *
        obtain ⟨t, rs⟩ := nn
        simp only at q0 q1 HRI HD
        clear h4 hri he2 he3
        go_wp2_with fail
        refine (HQ.out _ (vb_a HL.out _) rs _ (HRI.out.kept (vb_a (Below.refl _ _) _))).mono ?_; rintro r w1 ⟨rfl, hb1⟩
        have HB1 := hid_intro (vb_t (vb_a HL.out _) hb1)
        have HK := hid_intro ((Bk.new wr #[.string (bsx t), .slice ao2 rs.length cap2] 51).bel hb1)
        by_cases hq : rs = l
        · have HE : Hid (findN n l = t) := hid_intro (by rw [HF.out, HD.out, if_pos hq])
          rw [decide_eq_true hq]
          obtain ⟨c0, c1⟩ := HK.out.c2
          clear hb1 hq
          go_wp2_with fail
          rw [HP.out, HS.out, HE.out]
          exact ⟨rfl, HB1.out⟩
        · have HE : Hid (findN n l = findN (n.drop (k + 1)) l) := hid_intro (by rw [HF.out, HD.out, if_neg hq])
          rw [decide_eq_false hq]
          clear hb1 hq
          go_wp2_with fail
          go_roundg (n.length - (k + 1))
          case measure => omega
          case rel => exact ⟨k + 1, hlt, rfl, by simp, HE, HB1⟩
      · have hI : ¬ (k : Int) < (n.length : Int) := by omega
        have HE : Hid (findN n l = clsTx l) := hid_intro (by rw [HF.out, List.drop_eq_nil_of_le (by omega)]; rfl)
        go_wp2_with fail
        refine (HC.out wr HL.out).mono ?_; rintro r w1 ⟨rfl, hb1⟩
        go_wp2_with fail
        rw [HP.out, HS.out, HE.out]
        exact ⟨rfl, vb_t HL.out hb1⟩
set_option maxRecDepth 100000 in
set_option maxHeartbeats 1600000 in
theorem set_two (n : List (List UInt8 × List (Int × Int))) (nv : Value) (wb : Nat) (l : List (Int × Int)) (v : Value) (w : World) (X : Nat → Prop) (hX : TX w) (hR : RI w X l v) (hN : NS w n nv) (hw1 : w.cell? ⟨wb, 1, none⟩ = some nv) (hok : ∀ r ∈ l, okR r) (hl : l.length ≤ 1073741823) (h1 : l.length = 1) (h2 : (ra l 0).1 ≠ (ra l 0).2) :
    Calls Tryz.prog 55 #[.pointer (some ⟨wb, 0, none⟩), v] w fun r w' => r = .returned (.string (bsx (setL n l))) ∧ Below w.heap.size w w' := by
  obtain ⟨P, hP⟩ : ∃ P : Ending → World → Prop, P = fun r w' => r = .returned (.string (bsx (setL n l))) ∧ Below w.heap.size w w' := ⟨_, rfl⟩
  rw [← hP]
  have HP := hid_intro hP
  have HS : Hid (setL n l = findN n l) := hid_intro (by unfold setL; rw [if_neg (fun h => h2 h.2)])
  have HC := hid_intro (fun w' (hb : Below w.heap.size w w') => classT_any l v w' X (hX.below hb) (hR.kept hb) hok hl)
  have HQ := hid_intro (fun w' (hb : Below w.heap.size w w') r rv (hr : RI w' (fun _ => False) r rv) => equal_any r l rv v w' _ X hr (hR.kept hb))
  have HN := hid_intro hN
  obtain ⟨nb, noff, ncap, rfl, hn1, hn2, hn3, -⟩ := hN
  obtain ⟨ao, cap, rfl, hc, hcm, hwf, hlie⟩ := hR
  rcases hlie with hlie | ⟨b, off, rfl, _, hcell⟩
  · rw [hlie] at h1; simp at h1
  obtain ⟨q0, q1⟩ := hcell 0 (by omega)
  have hlI : ((l.length : Int) == 1) = true := by simp; omega
  have hl0 : (0 : Int) < (l.length : Int) := by omega
  have hxy : ((ra l 0).1 == (ra l 0).2) = false := by simpa using h2
  rw [Nat.zero_mul, Nat.add_zero] at q0 q1
  generalize (ra l 0).1 = x at *
  generalize (ra l 0).2 = y at *
  clear hcell hwf h1 h2
  have hnI : (n.length : Int) ≤ 1000 := by omega
  clear hP hX hok hl hn1 hn2
  go_enter Tryz.func55, Tryz.ntmps55
  go_wp2_with fail
  go_region
  all_goals
    go_wp2_with fail
    go_loopg [31] n.length (fun m s31 wr => ∃ k : Nat, k ≤ n.length ∧ m = n.length - k ∧ s31 = .int .i64 (k : Int) ∧ Hid (findN n l = findN (n.drop k) l) ∧ Hid (Below w.heap.size w wr))
    case atStart => exact ⟨0, Nat.zero_le _, rfl, rfl, hid_intro rfl, hid_intro (vb_d (Below.refl _ _))⟩
    case round =>
      obtain ⟨k, hk, rfl, rfl, HF, HL⟩ := hrel
      by_cases hlt : k < n.length
      · have HNr := HN.out.kept HL.out
        obtain ⟨nb', noff', ncap', he, -, -, -, h4⟩ := HNr
        injection he with he1 he2 he3
        injection he1 with he1
        injection he1 with he4 he5
        subst he4 he5
        obtain ⟨q0, rv, q1, hri⟩ := h4 k hlt
        have hI : (k : Int) < (n.length : Int) := by omega
        have HD := hid_intro (findN_drop n l k hlt)
        obtain ⟨ao2, cap2, rfl, _⟩ := hri.shape
        have HRI := hid_intro hri
        generalize n[k] = nn at *
        obtain ⟨t, rs⟩ := nn
        simp only at q0 q1 HRI HD
        clear h4 hri he2 he3
        go_wp2_with fail
        refine (HQ.out _ (vb_a HL.out _) rs _ (HRI.out.kept (vb_a (Below.refl _ _) _))).mono ?_; rintro r w1 ⟨rfl, hb1⟩
        have HB1 := hid_intro (vb_t (vb_a HL.out _) hb1)
        have HK := hid_intro ((Bk.new wr #[.string (bsx t), .slice ao2 rs.length cap2] 51).bel hb1)
        by_cases hq : rs = l
        · have HE : Hid (findN n l = t) := hid_intro (by rw [HF.out, HD.out, if_pos hq])
          rw [decide_eq_true hq]
          obtain ⟨c0, c1⟩ := HK.out.c2
          clear hb1 hq
          go_wp2_with fail
          rw [HP.out, HS.out, HE.out]
          exact ⟨rfl, HB1.out⟩
        · have HE : Hid (findN n l = findN (n.drop (k + 1)) l) := hid_intro (by rw [HF.out, HD.out, if_neg hq])
          rw [decide_eq_false hq]
          clear hb1 hq
          go_wp2_with fail
          go_roundg (n.length - (k + 1))
          case measure => omega
          case rel => exact ⟨k + 1, hlt, rfl, by simp, HE, HB1⟩
      · have hI : ¬ (k : Int) < (n.length : Int) := by omega
        have HE : Hid (findN n l = clsTx l) := hid_intro (by rw [HF.out, List.drop_eq_nil_of_le (by omega)]; rfl)
        go_wp2_with fail
        refine (HC.out wr HL.out).mono ?_; rintro r w1 ⟨rfl, hb1⟩
        go_wp2_with fail
        rw [HP.out, HS.out, HE.out]
        exact ⟨rfl, vb_t HL.out hb1⟩
theorem set_any (n : List (List UInt8 × List (Int × Int))) (nv : Value) (wb : Nat) (l : List (Int × Int)) (v : Value) (w : World) (X : Nat → Prop) (hX : TX w) (hR : RI w X l v) (hN : NS w n nv) (hw1 : w.cell? ⟨wb, 1, none⟩ = some nv) (hok : ∀ r ∈ l, okR r) (hl : l.length ≤ 1073741823) :
    Calls Tryz.prog 55 #[.pointer (some ⟨wb, 0, none⟩), v] w fun r w' => r = .returned (.string (bsx (setL n l))) ∧ Below w.heap.size w w' := by
  by_cases h1 : l.length = 1
  · by_cases h2 : (ra l 0).1 = (ra l 0).2
    · exact set_one n wb l v w X hX hR hok h1 h2
    · exact set_two n nv wb l v w X hX hR hN hw1 hok hl h1 h2
  · exact set_len n nv wb l v w X hX hR hN hw1 hok hl h1
end Go.Proofs.YtppilokmgdpnnaaGreatDoor

namespace Go.Proofs.YtppilokmgdpnnaaGreatDoor
open Go.RowKit Go.Sort
attribute [local go_sem] setCell_drewN alloc_drewN

/-- A writer in block wb, with what it has written in a row of its own behind it. -/
def WS (wb : Nat) (nv : Value) (w : World) (out : List UInt8) : Prop :=
  ∃ ov, Bk w wb #[ov, nv] ∧ w.ownsRow (wb + 1) 5 1 ov out.length (Lib.strCells (bsx out))
theorem own_belowx {w w' : World} {B : Nat} {e : TypeId} {size : Nat} {v : Value} {n : Nat} {xs : List Value} (h : w.ownsRow B e size v n xs) (hk : ∀ g, B ≤ g → g < w.heap.size → w'.heap[g]? = w.heap[g]?) : w'.ownsRow B e size v n xs := by
  obtain ⟨h1, h2⟩ := h
  refine ⟨h1, ?_⟩
  rcases h2 with h2 | ⟨g, cap, cur, a, b, c, d⟩
  · exact .inl h2
  · exact .inr ⟨g, cap, cur, a, b, by rw [hk g b (Array.getElem?_eq_some_iff.1 c).1]; exact c, d⟩
theorem WS.below {wb : Nat} {nv : Value} {w w' : World} {out : List UInt8} (h : WS wb nv w out) (hb : Below w.heap.size w w') : WS wb nv w' out := by
  obtain ⟨ov, h1, h2⟩ := h
  exact ⟨ov, h1.bel hb, own_belowx h2 fun g _ hg => hb.block g hg⟩
theorem WS.lt {wb : Nat} {nv : Value} {w : World} {out : List UInt8} (h : WS wb nv w out) : wb < w.heap.size := by
  obtain ⟨ov, h1, _⟩ := h
  exact h1.lt
theorem WS.named {wb : Nat} {nv : Value} {w : World} {out : List UInt8} (h : WS wb nv w out) : w.cell? ⟨wb, 1, none⟩ = some nv := by
  obtain ⟨ov, h1, _⟩ := h
  exact h1.cell 1
theorem strCells_app (a b : List UInt8) : Lib.strCells (bsx a) ++ Lib.strCells (bsx b) = Lib.strCells (bsx (a ++ b)) := by
  simp [Lib.strCells, bsx]
theorem infoU8x : (Tryz.prog.info? 5).map (fun i => (i.zero, i.size, i.bytes)) = some (some (.int .u8 0), 1, 1) := by kernel_rfl
set_option maxRecDepth 100000 in
set_option maxHeartbeats 1600000 in
theorem put_any (wb : Nat) (nv : Value) (out s : List UInt8) (w : World) (hW : WS wb nv w out) (hl : out.length + s.length ≤ 70368744177664) :
    Calls Tryz.prog 22 #[.pointer (some ⟨wb, 0, none⟩), .string (bsx s)] w fun r w' => r = .returned (.tuple #[]) ∧ WS wb nv w' (out ++ s) ∧ Below wb w w' ∧ Lib.OthersKept 5 (some wb) w w' := by
  obtain ⟨P, hP⟩ : ∃ P : Ending → World → Prop, P = fun r w' => r = .returned (.tuple #[]) ∧ WS wb nv w' (out ++ s) ∧ Below wb w w' ∧ Lib.OthersKept 5 (some wb) w w' := ⟨_, rfl⟩
  rw [← hP]
  have HP := hid_intro hP
  have HLT := hid_intro hW.lt
  obtain ⟨ov, h1, h2⟩ := hW
  have c0 : w.cell? ⟨wb, 0, none⟩ = some ov := h1.cell 0
  have hov : ov.ownBlock ≠ some wb := by
    rcases h2.2 with ⟨rfl, _⟩ | ⟨g, cap, cur, rfl, hg, _⟩
    · simp [Value.ownBlock]
    · simp [Value.ownBlock]; omega
  have hrow : ∀ g, ov.ownBlock = some g → ∃ c fz, w.heap[g]? = some (.cells c 5 fz) := by
    intro g hg
    rcases h2.2 with ⟨rfl, _⟩ | ⟨g', cap, cur, rfl, _, hc, _⟩
    · simp [Value.ownBlock] at hg
    · simp [Value.ownBlock] at hg; subst hg; exact ⟨_, _, hc⟩
  have hlo : ∀ g, ov.ownBlock = some g → wb ≤ g := by
    intro g hg
    rcases h2.2 with ⟨rfl, _⟩ | ⟨g', cap, cur, rfl, hb, hc, _⟩
    · simp [Value.ownBlock] at hg
    · simp [Value.ownBlock] at hg; omega
  obtain ⟨i0, hi, hz0, hz1, hz2⟩ := info_parts infoU8x
  have HO := hid_intro h2
  have HZ : Hid (out.length + (bsx s).size ≤ 70368744177664) := hid_intro (by rw [bsx_size]; exact hl)
  have fz : ∀ w', w.grownBy w' ov.ownBlock → Bk w' wb #[ov, nv] := fun w' hg => by
    obtain ⟨T, hT⟩ := h1
    exact ⟨T, by rw [hg.block wb HLT.out (fun e => hov e.symm)]; exact hT⟩
  have HFZ := hid_intro fz
  have HK := hid_intro hrow
  have HLO := hid_intro hlo
  have HOV := hid_intro hov
  obtain ⟨oa, on, oc, hshape⟩ : ∃ oa on oc, ov = .slice oa on oc := by
    rcases h2.2 with ⟨rfl, _⟩ | ⟨g, cap, cur, rfl, _⟩
    · exact ⟨_, _, _, rfl⟩
    · exact ⟨_, _, _, rfl⟩
  subst hshape
  clear hP hl h2 hov hrow hlo fz h1
  go_enter Tryz.func22, Tryz.ntmps22
  go_wp2_with (at_builtin; refine Lib.wpList_append_own_string _ rfl _ _ 40 9 rfl (wb + 1) 5 i0 Tryz.underlying40 Tryz.underlying9 hi hz0 hz1 hz2 _ _ _ rfl HO.out (bsx s) rfl (by have := HZ.out; unfold maxLen; omega) (by have := HZ.out; omega) HLT.out ?_)
  intro v' w' ho' hg' hnil'
  have hcells := HFZ.out w' hg'
  have f0 := hcells.frz 0
  obtain ⟨oa', on', oc', hs'⟩ : ∃ oa on oc, v' = .slice oa on oc := by
    rcases ho'.2 with ⟨rfl, _⟩ | ⟨g, cap, cur, rfl, _⟩
    · exact ⟨_, _, _, rfl⟩
    · exact ⟨_, _, _, rfl⟩
  subst hs'
  have d0 : w'.cell? ⟨wb, 0, none⟩ = some (.slice oa on oc) := hcells.cell 0
  have HO' := hid_intro ho'
  have HG' := hid_intro hg'
  have HC' := hid_intro hcells
  clear ho' hg' hcells hnil'
  go_wp2_with fail
  go_end0
  rw [HP.out]
  have e1 : (out ++ s).length = out.length + (bsx s).size := by rw [List.length_append, bsx_size]
  have hb : Below wb w w' := ⟨HG'.out.os, HG'.out.tape, HG'.out.output, HG'.out.size, fun k hk => HG'.out.block k (by have := HLT.out; omega) (fun e => by have := HLO.out k e.symm; omega)⟩
  refine ⟨rfl, ⟨_, HC'.out.set 0 _ rfl, ?_⟩, hb.setCell (Nat.le_refl _) _, ((Lib.OthersKept.refl _ (some wb) w).grown HG'.out HK.out).setCell ⟨wb, 0, none⟩ rfl _⟩
  rw [e1, ← strCells_app]
  exact own_belowx HO'.out fun g hg _ => Below.heap_setCell w' _ _ _ (fun e => by have : g = wb := e; omega)
end Go.Proofs.YtppilokmgdpnnaaGreatDoor

namespace Go.Proofs.YtppilokmgdpnnaaGreatDoor
open Go.RowKit Go.Sort
attribute [local go_sem] setCell_drewN alloc_drewN

def countT (lo hi : Int) (z : Bool) : List UInt8 := greedyT lo hi ++ if z then [63] else []
theorem greedyT_sz (a b : Int) (ha : 0 ≤ a ∧ a ≤ 1000) (hb : b = -1 ∨ (a ≤ b ∧ b ≤ 1000)) : (greedyT a b).length ≤ 60 := by
  have h1 := itoa_sz a ha.1 ha.2
  rw [bsx_size] at h1
  unfold greedyT
  split
  · simp
  · split
    · simp
    · split
      · simp
      · split
        · simp; omega
        · have h2 := itoa_sz b (by omega) (by omega)
          rw [bsx_size] at h2
          split
          · simp; omega
          · simp; omega
theorem q63 (a : List UInt8) : bsx a ++ (⟨#[63]⟩ : ByteArray) = bsx (a ++ [63]) := by
  rw [show (⟨#[63]⟩ : ByteArray) = bsx [63] from rfl, bsx_app]
set_option maxHeartbeats 1600000 in
theorem countT_any (k : Int) (a d : Option Addr) (n c m e : Nat) (lo hi : Int) (z : Bool) (w : World) (hX : TX w) (hlo : 0 ≤ lo ∧ lo ≤ 1000) (hhi : hi = -1 ∨ (lo ≤ hi ∧ hi ≤ 1000)) :
    Calls Tryz.prog 45 #[.agg #[.int .i64 k, .slice a n c, .int .i64 lo, .int .i64 hi, .bool z, .slice d m e]] w fun r w' => r = .returned (.string (bsx (countT lo hi z))) ∧ Below w.heap.size w w' := by
  obtain ⟨P, hP⟩ : ∃ P : Ending → World → Prop, P = fun r w' => r = .returned (.string (bsx (countT lo hi z))) ∧ Below w.heap.size w w' := ⟨_, rfl⟩
  rw [← hP]
  have HP := hid_intro hP
  have HG := hid_intro (fun w' (hb : Below w.heap.size w w') => greedy_any lo hi hlo hhi w' (hX.below hb).pow)
  have hz : (bsx (greedyT lo hi)).size ≤ 60 := by rw [bsx_size]; exact greedyT_sz lo hi hlo hhi
  clear hP hX hlo hhi
  cases z
  · have HE : Hid (countT lo hi false = greedyT lo hi) := hid_intro (by simp [countT])
    go_enter Tryz.func45, Tryz.ntmps45
    go_wp2_with fail
    refine (HG.out _ (vb_a (Below.refl _ _) _)).mono ?_; rintro r w1 ⟨rfl, hb1⟩
    go_wp2_with fail
    rw [HP.out, HE.out]
    exact ⟨rfl, vb_t (vb_a (Below.refl _ _) _) hb1⟩
  · have HE : Hid (countT lo hi true = greedyT lo hi ++ [63]) := hid_intro (by simp [countT])
    go_enter Tryz.func45, Tryz.ntmps45
    go_wp2_with fail
    refine (HG.out _ (vb_a (Below.refl _ _) _)).mono ?_; rintro r w1 ⟨rfl, hb1⟩
    go_wp2_with fail
    rw [HP.out, HE.out]
    exact ⟨by rw [q63]; rfl, vb_t (vb_a (Below.refl _ _) _) hb1⟩
end Go.Proofs.YtppilokmgdpnnaaGreatDoor

namespace Go.Proofs.YtppilokmgdpnnaaGreatDoor

mutual
/-- A tree's states, without the last one. -/
def szX : RX → Nat
  | .mk k _ lo hi _ s =>
    if k = 1 then 0
    else if k = 3 then szL s
    else if k = 4 then szL s + (s.length - 1) * 2
    else if k = 5 then (if hi = -1 then lo.toNat * szL s + (szL s + 2) else lo.toNat * szL s + (hi - lo).toNat * (szL s + 1))
    else 1
def szL : List RX → Nat
  | [] => 0
  | x :: l => szX x + szL l
end
theorem szL_append : ∀ (l m : List RX), szL (l ++ m) = szL l + szL m
  | [], m => by simp [szL]
  | x :: l, m => by simp only [List.cons_append, szL, szL_append l m]; omega
theorem szL_take (l : List RX) (i : Nat) (h : i < l.length) : szL (l.take (i + 1)) = szL (l.take i) + szX l[i] := by
  rw [List.take_add_one, List.getElem?_eq_getElem h, szL_append]
  simp [szL]
/-- What the counter's sum is. -/
theorem cap_plus (a b L : Nat) : min (min a L + min b L) L = min (a + b) L := by omega
theorem cap_times (n a L : Nat) : min (n * min a L) L = min (n * a) L := by
  by_cases h : a ≤ L
  · rw [Nat.min_eq_left h]
  · have hL : L ≤ a := by omega
    rw [Nat.min_eq_right hL]
    cases n with
    | zero => simp
    | succ n =>
      have h1 : L ≤ (n + 1) * L := by rw [Nat.succ_mul]; omega
      have h2 : (n + 1) * L ≤ (n + 1) * a := Nat.mul_le_mul_left _ hL
      omega
/-- The question of the counter's product. -/
theorem times_lt (n a L : Nat) (hn : 0 < n) : L / n < a ↔ L < n * a := by
  rw [Nat.div_lt_iff_lt_mul hn, Nat.mul_comm]
/-- Right trees: what the counting leans on. -/
theorem right_parts {d : Nat} {k : Int} {r : List (Int × Int)} {lo hi : Int} {z : Bool} {s : List RX} (h : rightB d (.mk k r lo hi z s) = true) :
    (∃ e, d = e + 1 ∧ ∀ x ∈ s, rightB e x = true) ∧ (k = 4 → 2 ≤ s.length) ∧ (k = 5 → s.length = 1 ∧ 0 ≤ lo ∧ lo ≤ 1000 ∧ (hi = -1 ∨ lo ≤ hi ∧ hi ≤ 1000)) := by
  cases d with
  | zero => simp [rightB] at h
  | succ d =>
    simp only [rightB, Bool.and_eq_true, List.all_eq_true] at h
    obtain ⟨⟨_, hk⟩, ha⟩ := h
    refine ⟨⟨d, rfl, ha⟩, fun e => ?_, fun e => ?_⟩
    · subst e
      simp [kindB] at hk
      omega
    · subst e
      simp [kindB] at hk
      omega
end Go.Proofs.YtppilokmgdpnnaaGreatDoor

namespace Go.Proofs.YtppilokmgdpnnaaGreatDoor
open Go.RowKit
attribute [local go_sem] setCell_drewN alloc_drewN

end Go.Proofs.YtppilokmgdpnnaaGreatDoor
