/-
  PikeClass answers true. Conditions: the table of greatest code points holds its four numbers; at most 2^20 ranges and bytes.
  A tree, or a row of states, that comes in: it lies in memory, and nothing in it is longer than the bulk of what was read. No condition.
-/
import Derived.Test.YtoinlmfodmgohaaGreatDoorG42
import Derived.Test.YtoinlmfodmgohaaGreatDoorG45
import Derived.Test.YtoinlmfodmgohaaGreatDoorG25
import Derived.Test.YtoinlmfodmgohaaGreatDoorRows
import Derived.ProofKit
import Derived.OpenShut
import Derived.ShutString
import Derived.ChangeOld
import Derived.Below
import Derived.Deep.DeepHandedRow
import Derived.Deep.Strs
import Derived.LaidLaws
import Derived.SizedLaws
namespace Go.Proofs.YtoinlmfodmgohaaGreatDoor
open Go.RowKit Go.Maps
attribute [local go_sem] setCell_drewN alloc_drewN

def inR (p : Int) (q : Int × Int) : Bool := decide (q.1 ≤ p ∧ p ≤ q.2)
theorem takeR_any (m : List (Int × Int)) (p : Int) {k : Nat} (hk : k < m.length) : (m.take (k + 1)).any (inR p) = ((m.take k).any (inR p) || decide ((ra m k).1 ≤ p ∧ p ≤ (ra m k).2)) := by
  unfold ra
  rw [List.take_add_one, List.getElem?_eq_getElem hk, List.any_append, List.getD_eq_getElem?_getD, List.getElem?_eq_getElem hk]
  simp [inR]
theorem xi_tS {w : World} {B : Nat} {v : Value} {m : List (Int × Int)} (h : OwnR w B v m) : XI w (fun _ => False) (tS m) (fun i => [Value.int .i64 2, v, .int .i64 0, .int .i64 0, .bool false, .slice none 0 0].getD i .nilIface) :=
  XI.mk none 0 (fun _ _ => .nilIface) rfl (h.ri _ (fun _ _ h => h)) rfl rfl rfl rfl ⟨Nat.le_refl _, by unfold maxLen; omega⟩ ⟨I64_of (by omega) (by omega), I64_of (by omega) (by omega), I64_of (by omega) (by omega)⟩ (Or.inl rfl) (fun i hi => by simp at hi)
theorem comp_tS {w : World} {B : Nat} {v : Value} {m : List (Int × Int)} (h : OwnR w B v m) (hm : rgB m = true) (hl : m.length ≤ 1048576) :
    Calls Tryz.prog 10 #[.agg #[.int .i64 2, v, .int .i64 0, .int .i64 0, .bool false, .slice none 0 0], .int .i64 10] w fun e w' => ∃ sb, e = .returned (.tuple #[.slice (some ⟨sb, 0, none⟩) 2 2, .int .i64 0]) ∧ SI w' (fun _ => False) (lS m) (.slice (some ⟨sb, 0, none⟩) 2 2) ∧ Below w.heap.size w w' := by
  have hc := comp_ok (tS m) (.mk hl (Nat.zero_le _) (fun c hc => by simp at hc)) (fun i => [Value.int .i64 2, v, .int .i64 0, .int .i64 0, .bool false, .slice none 0 0].getD i .nilIface) w _ (xi_tS h) 10 (right_tS m hm) (by rw [sz_tS]; decide)
  have e : xa (fun i => [Value.int .i64 2, v, .int .i64 0, .int .i64 0, .bool false, .slice none 0 0].getD i .nilIface) = .agg #[.int .i64 2, v, .int .i64 0, .int .i64 0, .bool false, .slice none 0 0] := rfl
  rw [e, sz_tS, nfa_tS] at hc
  exact hc
theorem r_lS {m : List (Int × Int)} (hl : m.length ≤ 1048576) : ∀ s ∈ lS m, s.r.length ≤ 1048576 := by
  intro s hs
  simp only [lS, List.mem_cons, List.not_mem_nil, or_false] at hs
  rcases hs with rfl | rfl
  · exact hl
  · exact Nat.zero_le _
set_option maxRecDepth 100000 in
set_option maxHeartbeats 3200000 in
theorem class_walk (l : List (Int × Int)) (hl : l.length ≤ 1048576) (v : Value) (s : ByteArray) (hs : s.size ≤ 1048576) (w : World) (hT : Tab w) (hg0 : 0 < w.heap.size) (X0 : Nat → Prop) (hR : RI w X0 l v) :
    Calls Tryz.prog 3 #[v, .string s] w fun e w' => e = .returned (.bool true) ∧ Below w.heap.size w w' := by
  obtain ⟨P, hP⟩ : ∃ P : Ending → World → Prop, P = fun e w' => e = .returned (.bool true) ∧ Below w.heap.size w w' := ⟨_, rfl⟩
  rw [← hP]
  have HP := hid_intro hP
  have HHD := hid_intro (fun w' (hb : Below w.heap.size w w') => pheads_any w' (hT.below hb) (Nat.lt_of_lt_of_le hg0 hb.size))
  have hcv : ∀ w', (convert 9 35 (.string s)).run Tryz.prog w' = _ := fun w' => conv_str w' s
  have h1 := merge_any l v w X0 hR (by omega)
  have hml : (mergeL l).length ≤ 1048576 := Nat.le_trans (merge_len l) hl
  have hmr := rg_tS l
  obtain ⟨va, vn, vc, rfl⟩ : ∃ va vn vc, v = .slice va vn vc := by obtain ⟨va, vc, rfl, _⟩ := hR; exact ⟨_, _, _, rfl⟩
  generalize mergeL l = m at h1 hml hmr
  have HC := hid_intro (fun (w1 : World) (B : Nat) (v' : Value) (h : OwnR w1 B v' m) => comp_tS h hmr hml)
  have hlen := ptsS_len s
  have HTB := hid_intro (fun w' (hb : Below w.heap.size w w') => hT.below hb)
  have HM := hid_intro (And.intro hml hmr)
  cases hg : goodS s
  · have HP2 := hid_intro (fun w' => rpts_no s (by omega) w' hg)
    have HRE : Hid (readE (lS m) s = 10) := hid_intro (by unfold readE; rw [nfa_lS m hmr, hg]; rfl)
    have HSN := hid_intro (fun w' (hb : Below w.heap.size w w') (lv : Value) (hS : SI w' (fun _ => False) (lS m) lv) => search_no (lS m) (fun s hs => by have := r_lS hml s hs; omega) s (by omega) lv w' (HTB.out w' hb) _ hS (by rw [HRE.out]; decide))
    clear hP hT hg0 hR hl hml hmr hg hlen hs
    go_enter Tryz.func3, Tryz.ntmps3
    go_wp2_with fail
    refine h1.mono ?_; rintro e w1 ⟨v1, rfl, ho1, hb1⟩
    have h2 := HC.out w1 _ v1 ho1
    have HB1 := hid_intro hb1
    obtain ⟨v1a, v1c, hv1, _⟩ := ho1.ri (fun _ => False) (fun _ _ h => h)
    subst hv1
    clear h1 hb1 ho1
    go_wp2_with fail
    refine h2.mono ?_; rintro e w2 ⟨sb, rfl, hsi, hb2⟩
    have h3 := HP2.out w2
    have HB2 := hid_intro (vb_t HB1.out hb2)
    have HSI := hid_intro hsi
    clear h2 hsi hb2
    go_wp2_with fail
    refine h3.mono ?_; rintro e w3 ⟨rfl, hb3⟩
    have h4 := HSN.out w3 (vb_t HB2.out hb3) _ (HSI.out.kept hb3)
    rw [HRE.out] at h4
    have HB3 := hid_intro (vb_t HB2.out hb3)
    clear h3 hb3
    go_wp2_with fail
    refine h4.mono ?_; rintro e w4 ⟨rfl, hb4⟩
    have h5 := HHD.out w4 (vb_t HB3.out hb4)
    have HB4 := hid_intro (vb_t HB3.out hb4)
    clear h4 hb4
    go_wp2_with fail
    refine h5.mono ?_; rintro e w5 ⟨rfl, hb5⟩
    go_wp2_with fail
    rw [HP.out]
    exact ⟨rfl, vb_t HB4.out hb5⟩
  · have HP2 := hid_intro (fun w' => rpts_ok s (by omega) w' hg)
    have HSN := hid_intro (fun w' (hb : Below w.heap.size w w') (lv : Value) (hS : SI w' (fun _ => False) (lS m) lv) => search_ok (lS m) (by show 2 ≤ 1048576; omega) (r_lS hml) s hs lv w' (HTB.out w' hb) _ hS (nfa_lS m hmr) hg)
    generalize ptsS s = t at HP2 HSN hlen
    have htI : (t.length : Int) ≤ 1048576 := by omega
    have hmI : (m.length : Int) ≤ 1048576 := by omega
    clear hP hT hg0 hR hl hml hmr hg hlen hs
    go_enter Tryz.func3, Tryz.ntmps3
    go_wp2_with fail
    refine h1.mono ?_; rintro e w1 ⟨v1, rfl, ho1, hb1⟩
    have h2 := HC.out w1 _ v1 ho1
    have HB1 := hid_intro hb1
    have hri1 := ho1.ri (fun _ => False) (fun _ _ h => h)
    have HR1 := hid_intro hri1
    obtain ⟨v1a, v1c, hv1, _⟩ := hri1
    subst hv1
    clear h1 hb1 ho1
    go_wp2_with fail
    refine h2.mono ?_; rintro e w2 ⟨sb, rfl, hsi, hb2⟩
    have h3 := HP2.out w2
    have HB2 := hid_intro (vb_t HB1.out hb2)
    have HSI := hid_intro hsi
    have HR2 := hid_intro (HR1.out.kept hb2)
    clear h2 hsi hb2 HR1
    go_wp2_with fail
    refine h3.mono ?_; rintro e w3 ⟨r3, rfl, ho3, hb3⟩
    have h4 := HSN.out w3 (vb_t HB2.out hb3) _ (HSI.out.kept hb3)
    have hii3 := ho3.ii (fun _ => False) (fun _ _ h => h)
    have HI3 := hid_intro hii3
    obtain ⟨ta, tc, hr3, _⟩ := hii3
    subst hr3
    have HR3 := hid_intro (HR2.out.kept hb3)
    have HB3 := hid_intro (vb_t HB2.out hb3)
    clear h3 hb3 ho3 HR2
    go_wp2_with fail
    refine h4.mono ?_; rintro e w4 ⟨b, n, rfl, hsr, hb4⟩
    have hbe := sr_lS m HM.out.2 t hsr
    have HBE := hid_intro hbe
    have HI4 : Hid (∀ w', Below w4.heap.size w4 w' → ∀ i, i < t.length → ∃ bb off, ta = some ⟨bb, off, none⟩ ∧ w'.cell? ⟨bb, off + i, none⟩ = some (.int .i64 (ia t i))) := hid_intro (fun w' hb i hi => by
      obtain ⟨bb, off, cap', e, h1⟩ := ((HI3.out.kept hb4).kept hb).at hi
      injection e with e _ _
      exact ⟨bb, off, e, h1⟩)
    have HR4 : Hid (∀ w', Below w4.heap.size w4 w' → ∀ k, k < m.length → ∃ bb off, v1a = some ⟨bb, off, none⟩ ∧ w'.cell? ⟨bb, off + k * 2, none⟩ = some (.int .i64 (ra m k).1) ∧ w'.cell? ⟨bb, off + k * 2 + 1, none⟩ = some (.int .i64 (ra m k).2)) := hid_intro (fun w' hb k hk => by
      obtain ⟨bb, off, cap', e, h1⟩ := ((HR3.out.kept hb4).kept hb).at hk
      injection e with e _ _
      exact ⟨bb, off, e, h1⟩)
    have HB4 := hid_intro (vb_t HB3.out hb4)
    clear h4 hb4 hsr hbe HI3 HR3
    go_wp2_with fail
    go_loopg [13, 14] t.length (fun mm s13 s14 wr => ∃ (i : Nat) (bb : Bool), s14 = .int .i64 (i : Int) ∧ s13 = .bool bb ∧ mm = t.length - i ∧ Hid (i ≤ t.length ∧ bb = anyI m t i ∧ Below w4.heap.size w4 wr))
    case atStart => exact ⟨0, _, rfl, rfl, by omega, Nat.zero_le _, rfl, Below.refl _ _⟩
    case round =>
      obtain ⟨i, bb, rfl, rfl, rfl, HI⟩ := hrel
      by_cases hlt : (i : Int) < (t.length : Int)
      · have hi : i < t.length := by omega
        have HLT := hid_intro hi
        go_wp2_with fail
        go_loopg [13, 15] m.length (fun mm s13 s15 wr => ∃ (k : Nat) (bb : Bool), s15 = .int .i64 (k : Int) ∧ s13 = .bool bb ∧ mm = m.length - k ∧ Hid (k ≤ m.length ∧ bb = (anyI m t i || (m.take k).any (inR (ia t i))) ∧ Below w4.heap.size w4 wr))
        case atStart => exact ⟨0, _, rfl, rfl, by omega, Nat.zero_le _, by rw [HI.out.2.1]; simp, HI.out.2.2⟩
        case round =>
          obtain ⟨k, bk, rfl, rfl, rfl, HK⟩ := hrel
          by_cases hkl : (k : Int) < (m.length : Int)
          · have hk : k < m.length := by omega
            have HKL := hid_intro hk
            obtain ⟨b1, o1, ht1, q0⟩ := HI4.out wr HK.out.2.2 i HLT.out
            obtain ⟨b2, o2, hv2, g0, g1⟩ := HR4.out wr HK.out.2.2 k hk
            subst ht1 hv2
            have HTK := hid_intro (takeR_any m (ia t i) hk)
            clear hk
            cases bk
            · by_cases h1 : ia t i ≥ (ra m k).1
              · by_cases h2 : ia t i ≤ (ra m k).2
                · have HEQ : Hid (true = (anyI m t i || (m.take (k + 1)).any (inR (ia t i)))) := hid_intro (by rw [HTK.out, ← Bool.or_assoc, ← HK.out.2.1, decide_eq_true ⟨h1, h2⟩]; rfl)
                  go_wp2_with fail
                  go_quiet (fail)
                  go_wp2_with fail
                  go_roundg (m.length - (k + 1))
                  case measure => have := HKL.out; omega
                  case rel => exact ⟨k + 1, _, by simp, rfl, rfl, HKL.out, by simpa [h1, h2] using HEQ.out, bel_drewN HK.out.2.2 _⟩
                · have hd : decide (ia t i ≤ (ra m k).2) = false := decide_eq_false h2
                  have HEQ : Hid (false = (anyI m t i || (m.take (k + 1)).any (inR (ia t i)))) := hid_intro (by rw [HTK.out, ← Bool.or_assoc, ← HK.out.2.1, decide_eq_false (fun h => h2 h.2)]; rfl)
                  go_wp2_with fail
                  go_quiet (fail)
                  go_wp2_with fail
                  go_roundg (m.length - (k + 1))
                  case measure => have := HKL.out; omega
                  case rel => exact ⟨k + 1, _, by simp, rfl, rfl, HKL.out, by simpa [h1, h2] using HEQ.out, bel_drewN HK.out.2.2 _⟩
              · have hd : decide (ia t i ≥ (ra m k).1) = false := decide_eq_false h1
                have HEQ : Hid (false = (anyI m t i || (m.take (k + 1)).any (inR (ia t i)))) := hid_intro (by rw [HTK.out, ← Bool.or_assoc, ← HK.out.2.1, decide_eq_false (fun h => h1 h.1)]; rfl)
                go_wp2_with fail
                go_quiet (fail)
                go_wp2_with fail
                go_roundg (m.length - (k + 1))
                case measure => have := HKL.out; omega
                case rel => exact ⟨k + 1, _, by simp, rfl, rfl, HKL.out, by simpa [h1] using HEQ.out, bel_drewN HK.out.2.2 _⟩
            · have HEQ : Hid (true = (anyI m t i || (m.take (k + 1)).any (inR (ia t i)))) := hid_intro (by rw [HTK.out, ← Bool.or_assoc, ← HK.out.2.1]; rfl)
              go_wp2_with fail
              go_quiet (fail)
              go_wp2_with fail
              go_roundg (m.length - (k + 1))
              case measure => have := HKL.out; omega
              case rel => exact ⟨k + 1, _, by simp, rfl, rfl, HKL.out, HEQ.out, bel_drewN HK.out.2.2 _⟩
          · have hke : k = m.length := by have := HK.out.1; omega
            have HEQ : Hid (bk = anyI m t (i + 1)) := hid_intro (by rw [anyI_succ m t HLT.out, HK.out.2.1, hke, List.take_length]; rfl)
            go_wp2_with fail
            go_roundg (t.length - (i + 1))
            case measure => have := HLT.out; omega
            case rel => exact ⟨i + 1, _, by simp, rfl, rfl, HLT.out, HEQ.out, HK.out.2.2⟩
      · have hie : i = t.length := by have := HI.out.1; omega
        obtain rfl : bb = b := by rw [HI.out.2.1, hie, HBE.out]
        have h5 := HHD.out wr (vb_t HB4.out HI.out.2.2)
        have HB5 := hid_intro (vb_t HB4.out HI.out.2.2)
        go_wp2_with fail
        refine h5.mono ?_; rintro e w5 ⟨rfl, hb5⟩
        go_wp2_with fail
        rw [HP.out]
        exact ⟨by simp, vb_t HB5.out hb5⟩
end Go.Proofs.YtoinlmfodmgohaaGreatDoor

namespace Go.Proofs.YtoinlmfodmgohaaGreatDoor
open Go.ChangeShapes Go.WideShapes Go.ChangeAt Go.RowKit Go.Deep

theorem own : ownKnob Tryz.prog.godebug = none := by kernel_rfl
theorem laidOut : laidOutB Tryz.prog = true := by kernel_rfl
theorem cellsInt : Tryz.prog.cellsOf 3 = 1 := by kernel_rfl
theorem cellsBoolJ : Tryz.prog.cellsOf 4 = 1 := by kernel_rfl
theorem cellsRange : Tryz.prog.cellsOf 40 = 2 := by kernel_rfl
theorem cellsRanges : Tryz.prog.cellsOf 22 = 1 := by kernel_rfl
theorem cellsKindX : Tryz.prog.cellsOf 28 = 1 := by kernel_rfl
theorem cellsRx : Tryz.prog.cellsOf 31 = 6 := by kernel_rfl
theorem cellsRxs : Tryz.prog.cellsOf 29 = 1 := by kernel_rfl
theorem bulk_pos {H : Type} (d : DataW H) : 1 ≤ Rows.uptoBulk d := by
  cases d with
  | lit l => cases l <;> simp [Rows.uptoBulk]
  | _ => simp [Rows.uptoBulk]
theorem bulk_part {H : Type} {d : DataW H} : ∀ {l : List (DataW H)}, d ∈ l → Rows.uptoBulk d ≤ Rows.uptoBulkAll l
  | x :: r, h => by
    simp only [Rows.uptoBulkAll]
    rcases List.mem_cons.1 h with e | e
    · subst e; omega
    · have := bulk_part e; omega
theorem bulk_length {H : Type} : ∀ (l : List (DataW H)), l.length ≤ Rows.uptoBulkAll l
  | [] => by simp
  | x :: r => by
    have := bulk_length r
    have := bulk_pos x
    simp only [Rows.uptoBulkAll, List.length_cons]
    omega
theorem xk_add (b o n : Nat) : (Addr.mk b o none).add n = ⟨b, o + n, none⟩ := by
  unfold Addr.add
  split
  · rename_i h; subst h; rfl
  · rfl
theorem xk_i64 {n : Int} (h : (Lit.int .i64 n).wf = true) : I64 n := by
  simp only [Lit.wf, Bool.and_eq_true, decide_eq_true_eq] at h
  have e1 : IntKind.min .i64 = -9223372036854775808 := by decide
  have e2 : IntKind.max .i64 = 9223372036854775807 := by decide
  rw [e1, e2] at h
  unfold I64
  omega
/-- A range's two cells. -/
def w2 (W : World) (a : Addr) (i : Nat) (q : Int × Int) : Prop := W.cell? ((a.add (i * 2)).add 0) = some (.int .i64 q.1) ∧ W.cell? ((a.add (i * 2)).add 1) = some (.int .i64 q.2)
set_option maxRecDepth 100000 in
/-- Ranges that come in, as a cell. -/
theorem open_rngs2 {H : Type} {enc : TypeId × Value → H} {W : World} {base : Nat} {spare : Nat → Bool} {held : Bool} {fuel : Nat} {cs : List Value} {x : DataW H × List MemPlace}
    (h : DataW.trod enc Tryz.prog W base spare held fuel 22 cs = some x) :
    ∃ (l : List (Int × Int)) (v : Value), cs = [v] ∧ RI W (fun _ => False) l v ∧ l.length ≤ Rows.uptoBulk x.1 := by
  rcases DataW.trod_slice Tryz.underlying22 h with ⟨h5, _⟩ | ⟨a, len0, cap0, elems, rest, m2, hm2, h5, hse, _, hl, hcm, hlen, hel, _, _⟩
  · exact ⟨[], _, h5, RI.nil _ _, Nat.zero_le _⟩
  · have each : ∀ i, i < len0 → ∃ q : Int × Int, W.cells? base (a.add (i * 2)) 2 = some [.int .i64 q.1, .int .i64 q.2] ∧ I64 q.1 ∧ I64 q.2 := fun i hi => by
      have := hel i hi
      rw [cellsRange, List.getElem?_eq_getElem (by omega)] at this
      obtain ⟨cs', g1, g2⟩ := Option.bind_eq_some_iff.1 this
      obtain ⟨y0, y1, n, _, hlc, u0, u1⟩ := trod_struct2 Tryz.underlying40 g2
      rw [cellsRange] at hlc
      match cs', hlc with
      | [c0, c1], _ =>
      simp only [cellsInt, List.drop, List.take] at u0 u1
      obtain ⟨p0, e1, _, hx⟩ := DataW.trod_int Tryz.underlying3 u0
      obtain ⟨p1, e2, _, hy⟩ := DataW.trod_int Tryz.underlying3 u1
      simp only [List.cons.injEq, and_true] at e1 e2
      subst e1 e2
      exact ⟨⟨p0, p1⟩, g1, xk_i64 hx, xk_i64 hy⟩
    haveI : Inhabited (Int × Int) := ⟨⟨0, 0⟩⟩
    obtain ⟨Q, hQ⟩ := choose_lt each
    have hra : ∀ i, i < len0 → ra ((List.range len0).map Q) i = Q i := fun i hi => by
      rw [ra_get (by simpa using hi)]; simp
    refine ⟨(List.range len0).map Q, _, h5, ⟨some a, cap0, by simp, by simpa using hl, hcm, fun r hr => ?_, ?_⟩, ?_⟩
    · obtain ⟨i, hi, rfl⟩ := List.mem_map.1 hr
      exact (hQ i (List.mem_range.1 hi)).2
    · by_cases h0 : len0 = 0
      · subst h0; exact Or.inl rfl
      · right
        have hcell : ∀ i, i < len0 → w2 W a i (Q i) := fun i hi => by
          obtain ⟨_, _, hc⟩ := World.cells?_some (hQ i hi).1
          exact ⟨(hc 0 (by omega)).trans rfl, (hc 1 (by omega)).trans rfl⟩
        have hsp : a.spot = none := by simpa [Addr.add] using World.cell?_spot (hcell 0 (by omega)).1
        obtain ⟨b, off, spot⟩ := a
        simp only at hsp
        subst hsp
        refine ⟨b, off, rfl, fun h => h, fun i hi => ?_⟩
        have hi' : i < len0 := by simpa using hi
        have := hcell i hi'
        rw [w2, xk_add, xk_add, xk_add] at this
        rw [hra i hi']
        exact this
    · have e1 : Rows.uptoBulk x.1 = Rows.uptoBulkAll (elems.map (·.1)) + Rows.uptoBulkAll (rest.map (·.1)) + 1 := by
        rw [hse]; rfl
      have e2 := bulk_length (elems.map (·.1))
      rw [List.length_map] at e2 ⊢
      rw [List.length_range]
      omega
theorem trod_struct4 {H : Type} {enc : TypeId × Value → H} {P : Program} {w : World} {base : Nat} {spare : Nat → Bool} {held : Bool} {t : TypeId} {f0 f1 f2 f3 : Field} {fuel : Nat} {cs : List Value} {x : DataW H × List MemPlace} (ht : P.underlying t = some (.struct #[f0, f1, f2, f3])) (h : DataW.trod enc P w base spare held fuel t cs = some x) :
    ∃ y0 y1 y2 y3 n, fuel = n + 1 ∧ x = (.agg [y0.1, y1.1, y2.1, y3.1], y0.2 ++ (y1.2 ++ (y2.2 ++ y3.2))) ∧ cs.length = P.cellsOf t ∧ DataW.trod enc P w base spare held n f0.type ((cs.drop f0.offset).take (P.cellsOf f0.type)) = some y0 ∧
      DataW.trod enc P w base spare held n f1.type ((cs.drop f1.offset).take (P.cellsOf f1.type)) = some y1 ∧ DataW.trod enc P w base spare held n f2.type ((cs.drop f2.offset).take (P.cellsOf f2.type)) = some y2 ∧
      DataW.trod enc P w base spare held n f3.type ((cs.drop f3.offset).take (P.cellsOf f3.type)) = some y3 := by
  obtain ⟨xs, n, hn, rfl, hl, hlen, hf⟩ := DataW.trod_struct ht h
  match xs, hlen with
  | [y0, y1, y2, y3], _ => exact ⟨y0, y1, y2, y3, n, hn, by simp, hl, by simpa using hf 0 f0 rfl, by simpa using hf 1 f1 rfl, by simpa using hf 2 f2 rfl, by simpa using hf 3 f3 rfl⟩

theorem trod_struct6 {H : Type} {enc : TypeId × Value → H} {P : Program} {w : World} {base : Nat} {spare : Nat → Bool} {held : Bool} {t : TypeId} {f0 f1 f2 f3 f4 f5 : Field} {fuel : Nat} {cs : List Value} {x : DataW H × List MemPlace} (ht : P.underlying t = some (.struct #[f0, f1, f2, f3, f4, f5])) (h : DataW.trod enc P w base spare held fuel t cs = some x) :
    ∃ y0 y1 y2 y3 y4 y5 n, fuel = n + 1 ∧ x = (.agg [y0.1, y1.1, y2.1, y3.1, y4.1, y5.1], y0.2 ++ (y1.2 ++ (y2.2 ++ (y3.2 ++ (y4.2 ++ y5.2))))) ∧ cs.length = P.cellsOf t ∧ DataW.trod enc P w base spare held n f0.type ((cs.drop f0.offset).take (P.cellsOf f0.type)) = some y0 ∧
      DataW.trod enc P w base spare held n f1.type ((cs.drop f1.offset).take (P.cellsOf f1.type)) = some y1 ∧ DataW.trod enc P w base spare held n f2.type ((cs.drop f2.offset).take (P.cellsOf f2.type)) = some y2 ∧
      DataW.trod enc P w base spare held n f3.type ((cs.drop f3.offset).take (P.cellsOf f3.type)) = some y3 ∧ DataW.trod enc P w base spare held n f4.type ((cs.drop f4.offset).take (P.cellsOf f4.type)) = some y4 ∧ DataW.trod enc P w base spare held n f5.type ((cs.drop f5.offset).take (P.cellsOf f5.type)) = some y5 := by
  obtain ⟨xs, n, hn, rfl, hl, hlen, hf⟩ := DataW.trod_struct ht h
  match xs, hlen with
  | [y0, y1, y2, y3, y4, y5], _ => exact ⟨y0, y1, y2, y3, y4, y5, n, hn, by simp, hl, by simpa using hf 0 f0 rfl, by simpa using hf 1 f1 rfl, by simpa using hf 2 f2 rfl, by simpa using hf 3 f3 rfl, by simpa using hf 4 f4 rfl, by simpa using hf 5 f5 rfl⟩

set_option maxRecDepth 100000 in
/-- A tree that comes in. -/
theorem open_rx2 {H : Type} {enc : TypeId × Value → H} {w : World} {base : Nat} {spare : Nat → Bool} {held : Bool} : ∀ (fuel : Nat) (cs : List Value) (x : DataW H × List MemPlace),
    DataW.trod enc Tryz.prog w base spare held fuel 31 cs = some x → ∃ v f, cs = [f 0, f 1, f 2, f 3, f 4, f 5] ∧ XI w (fun _ => False) v f ∧ BdX (Rows.uptoBulk x.1) v := by
  intro fuel
  induction fuel using Nat.strongRecOn with
  | _ fuel ih =>
  intro cs x h
  obtain ⟨y0, y1, y2, y3, y4, y5, m, hm, hxe, hlen, t0, t1, t2, t3, t4, t5⟩ := trod_struct6 Tryz.underlying31 h
  rw [cellsRx] at hlen
  match cs, hlen with
  | [c0, c1, c2, c3, c4, c5], _ =>
  simp only [cellsKindX, cellsInt, cellsBoolJ, cellsRanges, cellsRxs, List.drop, List.take] at t0 t1 t2 t3 t4 t5
  obtain ⟨k, h0, _, hk⟩ := DataW.trod_int Tryz.underlying28 t0
  obtain ⟨r, v1, h1, hR, hrb⟩ := open_rngs2 t1
  obtain ⟨lo, h2, _, hlo⟩ := DataW.trod_int Tryz.underlying3 t2
  obtain ⟨hi, h3, _, hhi⟩ := DataW.trod_int Tryz.underlying3 t3
  obtain ⟨z, h4, _⟩ := DataW.trod_bool Tryz.underlying4 t4
  simp only [List.cons.injEq, and_true] at h0 h1 h2 h3 h4
  subst h0 h1 h2 h3 h4
  have hbx : Rows.uptoBulk x.1 = Rows.uptoBulk y0.1 + (Rows.uptoBulk y1.1 + (Rows.uptoBulk y2.1 + (Rows.uptoBulk y3.1 + (Rows.uptoBulk y4.1 + (Rows.uptoBulk y5.1 + 0))))) + 1 := by rw [hxe]; rfl
  have hb1 : r.length ≤ Rows.uptoBulk x.1 := by omega
  have hw : I64 k ∧ I64 lo ∧ I64 hi := ⟨xk_i64 hk, xk_i64 hlo, xk_i64 hhi⟩
  rcases DataW.trod_slice Tryz.underlying29 t5 with ⟨h5, _⟩ | ⟨a, len, cap, elems, rest, m2, hm2, h5, hse, _, hl, hcm, hlen, hel, _, _⟩
  · simp only [List.cons.injEq, and_true] at h5
    subst h5
    exact ⟨.mk k r lo hi z [], fun i => [Value.int .i64 k, c1, .int .i64 lo, .int .i64 hi, .bool z, .slice none 0 0].getD i .nilIface, rfl,
      XI.mk none 0 (fun _ _ => .nilIface) rfl hR rfl rfl rfl rfl ⟨Nat.le_refl _, by unfold maxLen; omega⟩ hw (Or.inl rfl) (fun i hi => absurd hi (by simp)), BdX.mk hb1 (Nat.zero_le _) (fun c hc => absurd hc (by simp))⟩
  · simp only [List.cons.injEq, and_true] at h5
    subst h5
    have each : ∀ i, i < len → ∃ q : RX × (Nat → Value), w.cells? base (a.add (i * 6)) 6 = some [q.2 0, q.2 1, q.2 2, q.2 3, q.2 4, q.2 5] ∧ XI w (fun _ => False) q.1 q.2 ∧ BdX (Rows.uptoBulk x.1) q.1 := fun i hi => by
      have := hel i hi
      rw [cellsRx, List.getElem?_eq_getElem (by omega)] at this
      obtain ⟨cs', g1, g2⟩ := Option.bind_eq_some_iff.1 this
      obtain ⟨v, f, rfl, hv, hvb⟩ := ih m2 (by omega) cs' _ g2
      refine ⟨⟨v, f⟩, g1, hv, hvb.mono ?_⟩
      have e1 : Rows.uptoBulk y5.1 = Rows.uptoBulkAll (elems.map (·.1)) + Rows.uptoBulkAll (rest.map (·.1)) + 1 := by rw [hse]; rfl
      have e2 := bulk_part (l := elems.map (·.1)) (List.mem_map.2 ⟨_, List.getElem_mem (show i < elems.length by omega), rfl⟩)
      omega
    haveI : Inhabited (RX × (Nat → Value)) := ⟨⟨.mk 0 [] 0 0 false [], fun _ => .nilIface⟩⟩
    obtain ⟨Q, hQ⟩ := choose_lt each
    refine ⟨.mk k r lo hi z ((List.range len).map fun i => (Q i).1), fun i => [Value.int .i64 k, c1, .int .i64 lo, .int .i64 hi, .bool z, .slice (some a) len cap].getD i .nilIface, rfl,
      XI.mk (some a) cap (fun i => (Q i).2) rfl hR rfl rfl rfl (by simp) ⟨by simpa using hl, hcm⟩ hw ?_ (fun i hi => ?_), BdX.mk hb1 ?_ (fun c hc => ?_)⟩
    · by_cases h0 : len = 0
      · subst h0; exact Or.inl rfl
      · right
        have hcell : ∀ i, i < len → ∀ j, j < 6 → w.cell? ((a.add (i * 6)).add j) = some ((Q i).2 j) := fun i hi j hj => by
          obtain ⟨_, _, hc⟩ := World.cells?_some (hQ i hi).1
          rw [hc j hj]
          match j, hj with
          | 0, _ => rfl
          | 1, _ => rfl
          | 2, _ => rfl
          | 3, _ => rfl
          | 4, _ => rfl
          | 5, _ => rfl
        have hsp : a.spot = none := by simpa [Addr.add] using World.cell?_spot (hcell 0 (by omega) 0 (by omega))
        obtain ⟨b, off, spot⟩ := a
        simp only at hsp
        subst hsp
        refine ⟨b, off, rfl, fun h => h, fun i hi j hj => ?_⟩
        have hi' : i < len := by simpa using hi
        have := hcell i hi' j hj
        rw [xk_add, xk_add] at this
        exact this
    · have hi' : i < len := by simpa using hi
      simpa using (hQ i hi').2.1
    · have e1 : Rows.uptoBulk y5.1 = Rows.uptoBulkAll (elems.map (·.1)) + Rows.uptoBulkAll (rest.map (·.1)) + 1 := by rw [hse]; rfl
      have e2 := bulk_length (elems.map (·.1))
      rw [List.length_map] at e2 ⊢
      rw [List.length_range]
      omega
    · obtain ⟨i, hi, rfl⟩ := List.mem_map.1 hc
      exact (hQ i (List.mem_range.1 hi)).2.2
set_option maxRecDepth 100000 in
/-- A tree that comes in as an argument. -/
theorem open_rx {H : Type} {enc : TypeId × Value → H} {W : World} {base : Nat} {v : Value} {d : DataW H} {p : List MemPlace} (hv : Value.okWide Tryz.prog W .any base 31 v)
    (h : DataW.Trod enc Tryz.prog W 0 (fun _ => true) true 31 v d p) :
    ∃ (T : RX) (f : Nat → Value), v = xa f ∧ XI W (fun _ => False) T f ∧ BdX (Rows.uptoBulk d) T := by
  obtain ⟨cs, rfl, hsz⟩ := okWide_struct Tryz.underlying31 hv
  rw [cellsRx] at hsz
  obtain ⟨c0, c1, c2, c3, c4, c5, rfl⟩ : ∃ c0 c1 c2 c3 c4 c5, cs = #[c0, c1, c2, c3, c4, c5] := by
    obtain ⟨l⟩ := cs
    match l, hsz with
    | [a, b, c, d, e, f], _ => exact ⟨a, b, c, d, e, f, rfl⟩
  obtain ⟨fuel, hf⟩ := h
  have hf : DataW.trod enc Tryz.prog W 0 (fun _ => true) true fuel 31 [c0, c1, c2, c3, c4, c5] = some (d, p) := hf
  obtain ⟨T, f, hcs, hvi, hbd⟩ := open_rx2 fuel _ _ hf
  simp only [List.cons.injEq, and_true] at hcs
  obtain ⟨rfl, rfl, rfl, rfl, rfl, rfl⟩ := hcs
  exact ⟨T, f, rfl, hvi, hbd⟩
theorem upto_rx {H : Type} {ds : List (DataW H)} (hc : Rows.uptoSmall H ds = true) {j : Nat} {T : RX} {d : DataW H} (hd : ds[j]? = some d) (h : BdX (Rows.uptoBulk d) T) : BdX 1048576 T := by
  have hb : Rows.uptoBulkAll ds ≤ 1048576 := of_decide_eq_true hc
  have hp := bulk_part (List.mem_of_getElem? hd)
  exact h.mono (by omega)
end Go.Proofs.YtoinlmfodmgohaaGreatDoor
