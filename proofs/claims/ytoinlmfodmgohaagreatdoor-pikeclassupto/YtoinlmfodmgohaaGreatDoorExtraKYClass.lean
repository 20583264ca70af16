/-
  A set finds a text, if one of its code points is in it. No condition.
  PikeClass answers true. Conditions: the table of greatest code points holds its four numbers; at most 2^20 ranges and bytes.
-/
import Derived.Test.YtoinlmfodmgohaaGreatDoorJoined29
import Derived.Test.YtoinlmfodmgohaaGreatDoorJoined44
import Derived.Test.YtoinlmfodmgohaaGreatDoorJoined16
import Derived.Test.YtoinlmfodmgohaaGreatDoorJoined46
namespace Go.Proofs.YtoinlmfodmgohaaGreatDoor
open Go.RowKit Go.Maps

/-- The tree of a set, and its states. -/
def tS (m : List (Int × Int)) : RX := .mk 2 m 0 0 false []
def lS (m : List (Int × Int)) : List ST := [⟨1, m, 1, 0⟩, ⟨7, [], 0, 0⟩]
theorem nfa_tS (m : List (Int × Int)) : nfaL (tS m) = lS m := by
  unfold nfaL tS
  rw [bld, if_pos rfl]
  rfl
theorem sz_tS (m : List (Int × Int)) : szX (tS m) = 1 := by
  unfold tS
  simp [szX]
theorem rg_tS (l : List (Int × Int)) : rgB (mergeL l) = true := by
  unfold rgB
  rw [decide_eq_true_iff]
  exact (rg_can _).2 (merge_can l)
theorem right_tS (m : List (Int × Int)) (h : rgB m = true) : rightB 1000 (tS m) = true := by
  show (headB 2 m 0 0 false && kindB 2 0 0 ([] : List RX).length && ([] : List RX).all (rightB 999)) = true
  unfold headB kindB
  simp [h]
theorem nfa_lS (m : List (Int × Int)) (h : rgB m = true) : nfaB (lS m) = true := by
  unfold nfaB lS stB inB
  simp [h]
theorem sx_lS (m : List (Int × Int)) (x : Int) (hx : InL (lS m) x) : (x = 0 ∧ sx (lS m) x = ⟨1, m, 1, 0⟩) ∨ (x = 1 ∧ sx (lS m) x = ⟨7, [], 0, 0⟩) := by
  have h2 : x < 2 := hx.2
  have h1 := hx.1
  have : x = 0 ∨ x = 1 := by omega
  rcases this with rfl | rfl
  · exact Or.inl ⟨rfl, rfl⟩
  · exact Or.inr ⟨rfl, rfl⟩
theorem rch_lS (m : List (Int × Int)) (t : List Int) (p : Nat) {F : Int → Prop} (hF : ∀ y, F y → InL (lS m) y) (x : Int) : Rch (lS m) (letsB t p) F x ↔ F x := by
  refine ⟨fun h => ?_, fun h => .base h⟩
  induction h with
  | base h => exact h
  | a h hg ih =>
    rcases sx_lS m _ (hF _ ih) with ⟨_, e⟩ | ⟨_, e⟩
    · rw [e] at hg; exact absurd hg (by simp [letsB])
    · rw [e] at hg; exact absurd hg (by simp [letsB])
  | b h hk ih =>
    rcases sx_lS m _ (hF _ ih) with ⟨_, e⟩ | ⟨_, e⟩
    · rw [e] at hk; exact absurd hk (by simp)
    · rw [e] at hk; exact absurd hk (by simp)
theorem rs_lS (m : List (Int × Int)) (hm : rgB m = true) (t : List Int) (P : Nat) (x : Int) : Rs (lS m) t true P x ↔ x = 0 ∨ (x = 1 ∧ 0 < P ∧ hasB m (ia t (P - 1)) = true) := by
  have hL := vs_of (nfa_lS m hm)
  have i0 : InL (lS m) 0 := ⟨by omega, by show (0 : Int) < 2; omega⟩
  cases P with
  | zero =>
    rw [Rs, rch_lS m t 0 (fun y hy => by subst hy; exact i0)]
    simp
  | succ P =>
    rw [Rs, rch_lS m t (P + 1) (fun y hy => by
      rcases hy with ⟨_, rfl⟩ | ⟨z, hz, hg, rfl⟩
      · exact i0
      · exact goB_inl hL (Rs_inl hL t true P z hz) hg)]
    rw [Nat.add_sub_cancel]
    constructor
    · rintro (⟨_, rfl⟩ | ⟨z, hz, hg, rfl⟩)
      · exact Or.inl rfl
      · rcases sx_lS m z (Rs_inl hL t true P z hz) with ⟨_, e⟩ | ⟨_, e⟩
        · unfold goB at hg
          rw [e] at hg ⊢
          simp at hg
          exact Or.inr ⟨rfl, by omega, hg⟩
        · unfold goB at hg
          rw [e] at hg
          simp at hg
    · rintro (rfl | ⟨rfl, _, h⟩)
      · exact Or.inl ⟨rfl, rfl⟩
      · refine Or.inr ⟨0, ?_, ?_, rfl⟩
        · cases P with
          | zero => exact .base rfl
          | succ P => exact .base (Or.inl ⟨rfl, rfl⟩)
        · show (decide ((1 : Int) = 1) && hasB m (ia t P)) = true
          rw [h]; rfl
theorem dn_lS (m : List (Int × Int)) (hm : rgB m = true) (t : List Int) (P : Nat) : Dn (lS m) t true P ↔ 0 < P ∧ hasB m (ia t (P - 1)) = true := by
  unfold Dn
  constructor
  · rintro ⟨x, hx, hd⟩
    rcases (rs_lS m hm t P x).1 hx with rfl | ⟨rfl, h⟩
    · exact absurd (show decide ((1 : Int) = 7) = true from hd) (by decide)
    · exact h
  · exact fun h => ⟨1, (rs_lS m hm t P 1).2 (Or.inr ⟨rfl, h⟩), rfl⟩
/-- Is one of the first in a set? -/
def anyI (m : List (Int × Int)) (t : List Int) (i : Nat) : Bool := (t.take i).any (hasB m)
theorem anyI_iff (m : List (Int × Int)) (t : List Int) : anyI m t t.length = true ↔ ∃ i, i < t.length ∧ hasB m (ia t i) = true := by
  unfold anyI
  rw [List.take_length, List.any_eq_true]
  constructor
  · rintro ⟨x, hx, h⟩
    obtain ⟨i, hi, rfl⟩ := List.getElem_of_mem hx
    refine ⟨i, hi, ?_⟩
    unfold ia
    rw [List.getD_eq_getElem?_getD, List.getElem?_eq_getElem hi]
    exact h
  · rintro ⟨i, hi, h⟩
    exact ⟨_, ia_mem hi, h⟩
theorem anyI_succ (m : List (Int × Int)) (t : List Int) {i : Nat} (hi : i < t.length) : anyI m t (i + 1) = (anyI m t i || hasB m (ia t i)) := by
  unfold anyI ia
  rw [List.take_add_one, List.getElem?_eq_getElem hi, List.any_append, List.getD_eq_getElem?_getD, List.getElem?_eq_getElem hi]
  simp
theorem sr_lS (m : List (Int × Int)) (hm : rgB m = true) (t : List Int) {b : Bool} {n : Nat} (h : SrR (lS m) t b n) : b = anyI m t t.length := by
  obtain ⟨Q, hQ, _, hc⟩ := h
  rcases hc with ⟨rfl, hd, _⟩ | ⟨rfl, rfl, hnd⟩
  · have := (dn_lS m hm t Q).1 hd
    exact ((anyI_iff m t).2 ⟨Q - 1, by omega, this.2⟩).symm
  · cases he : anyI m t t.length
    · rfl
    · obtain ⟨i, hi, h⟩ := (anyI_iff m t).1 he
      exact absurd ((dn_lS m hm t (i + 1)).2 ⟨by omega, by rw [Nat.add_sub_cancel]; exact h⟩) (hnd (i + 1) (by omega))
end Go.Proofs.YtoinlmfodmgohaaGreatDoor

namespace Go.Proofs.YtoinlmfodmgohaaGreatDoor
open Go.RowKit Go.Maps
attribute [local go_sem] setCell_drewN alloc_drewN

def inR (p : Int) (q : Int × Int) : Bool := decide (q.1 ≤ p ∧ p ≤ q.2)
theorem takeR_any (m : List (Int × Int)) (p : Int) {k : Nat} (hk : k < m.length) : (m.take (k + 1)).any (inR p) = ((m.take k).any (inR p) || decide ((ra m k).1 ≤ p ∧ p ≤ (ra m k).2)) := by
  unfold ra
  rw [List.take_add_one, List.getElem?_eq_getElem hk, List.any_append, List.getD_eq_getElem?_getD, List.getElem?_eq_getElem hk]
  simp [inR]
theorem xi_tS {w : World} {B : Nat} {v : Value} {m : List (Int × Int)} (h : OwnR w B v m) : XI w (fun _ => False) (tS m) (fun i => [Value.int .i64 2, v, .int .i64 0, .int .i64 0, .bool false, .slice none 0 0].getD i .nilIface) :=
  XI.mk none 0 (fun _ _ => .nilIface) rfl (h.ri _ (fun _ _ h => h)) rfl rfl rfl rfl ⟨Nat.le_refl _, by unfold maxLen; omega⟩ ⟨I64_of (by omega) (by omega), I64_of (by omega) (by omega), I64_of (by omega) (by omega)⟩ (Or.inl rfl) (fun i hi => by simp at hi)
theorem comp_tS {w : World} {B : Nat} {v : Value} {m : List (Int × Int)} (h : OwnR w B v m) (hm : rgB m = true) (hl : m.length ≤ 1048576) :
    Calls Tryz.prog 10 #[.agg #[.int .i64 2, v, .int .i64 0, .int .i64 0, .bool false, .slice none 0 0], .int .i64 10] w fun e w' => ∃ sb, e = .returned (.tuple #[.slice (some ⟨sb, 0, none⟩) 2 2, .int .i64 0]) ∧ SI w' (fun _ => False) (lS m) (.slice (some ⟨sb, 0, none⟩) 2 2) ∧ Below w.heap.size w w' := by
  have hc := comp_ok (tS m) (.mk hl (Nat.zero_le _) (fun c hc => by simp at hc)) (fun i => [Value.int .i64 2, v, .int .i64 0, .int .i64 0, .bool false, .slice none 0 0].getD i .nilIface) w _ (xi_tS h) 10 (right_tS m hm) (by rw [sz_tS]; decide)
  have e : xa (fun i => [Value.int .i64 2, v, .int .i64 0, .int .i64 0, .bool false, .slice none 0 0].getD i .nilIface) = .agg #[.int .i64 2, v, .int .i64 0, .int .i64 0, .bool false, .slice none 0 0] := rfl
  rw [e, sz_tS, nfa_tS] at hc
  exact hc
theorem r_lS {m : List (Int × Int)} (hl : m.length ≤ 1048576) : ∀ s ∈ lS m, s.r.length ≤ 1048576 := by
  intro s hs
  simp only [lS, List.mem_cons, List.not_mem_nil, or_false] at hs
  rcases hs with rfl | rfl
  · exact hl
  · exact Nat.zero_le _
set_option maxRecDepth 100000 in
set_option maxHeartbeats 3200000 in
theorem class_walk (l : List (Int × Int)) (hl : l.length ≤ 1048576) (v : Value) (s : ByteArray) (hs : s.size ≤ 1048576) (w : World) (hT : Tab w) (hg0 : 0 < w.heap.size) (X0 : Nat → Prop) (hR : RI w X0 l v) :
    Calls Tryz.prog 3 #[v, .string s] w fun e w' => e = .returned (.bool true) ∧ Below w.heap.size w w' := by
  obtain ⟨P, hP⟩ : ∃ P : Ending → World → Prop, P = fun e w' => e = .returned (.bool true) ∧ Below w.heap.size w w' := ⟨_, rfl⟩
  rw [← hP]
  have HP := hid_intro hP
  have HHD := hid_intro (fun w' (hb : Below w.heap.size w w') => pheads_any w' (hT.below hb) (Nat.lt_of_lt_of_le hg0 hb.size))
  have hcv : ∀ w', (convert 9 35 (.string s)).run Tryz.prog w' = _ := fun w' => conv_str w' s
  have h1 := merge_any l v w X0 hR (by omega)
  have hml : (mergeL l).length ≤ 1048576 := Nat.le_trans (merge_len l) hl
  have hmr := rg_tS l
  obtain ⟨va, vn, vc, rfl⟩ : ∃ va vn vc, v = .slice va vn vc := by obtain ⟨va, vc, rfl, _⟩ := hR; exact ⟨_, _, _, rfl⟩
  generalize mergeL l = m at h1 hml hmr
  have HC := hid_intro (fun (w1 : World) (B : Nat) (v' : Value) (h : OwnR w1 B v' m) => comp_tS h hmr hml)
  have hlen := ptsS_len s
  have HTB := hid_intro (fun w' (hb : Below w.heap.size w w') => hT.below hb)
  have HM := hid_intro (And.intro hml hmr)
  cases hg : goodS s
  · have HP2 := hid_intro (fun w' => rpts_no s (by omega) w' hg)
    have HRE : Hid (readE (lS m) s = 10) := hid_intro (by unfold readE; rw [nfa_lS m hmr, hg]; rfl)
    have HSN := hid_intro (fun w' (hb : Below w.heap.size w w') (lv : Value) (hS : SI w' (fun _ => False) (lS m) lv) => search_no (lS m) (fun s hs => by have := r_lS hml s hs; omega) s (by omega) lv w' (HTB.out w' hb) _ hS (by rw [HRE.out]; decide))
    clear hP hT hg0 hR hl hml hmr hg hlen hs
    go_enter Tryz.func3, Tryz.ntmps3
    go_wp2_with fail
    refine h1.mono ?_; rintro e w1 ⟨v1, rfl, ho1, hb1⟩
    have h2 := HC.out w1 _ v1 ho1
    have HB1 := hid_intro hb1
    obtain ⟨v1a, v1c, hv1, _⟩ := ho1.ri (fun _ => False) (fun _ _ h => h)
    subst hv1
    clear h1 hb1 ho1
    go_wp2_with fail
    refine h2.mono ?_; rintro e w2 ⟨sb, rfl, hsi, hb2⟩
    have h3 := HP2.out w2
    have HB2 := hid_intro (vb_t HB1.out hb2)
    have HSI := hid_intro hsi
    clear h2 hsi hb2
    go_wp2_with fail
    refine h3.mono ?_; rintro e w3 ⟨rfl, hb3⟩
    have h4 := HSN.out w3 (vb_t HB2.out hb3) _ (HSI.out.kept hb3)
    rw [HRE.out] at h4
    have HB3 := hid_intro (vb_t HB2.out hb3)
    clear h3 hb3
    go_wp2_with fail
    refine h4.mono ?_; rintro e w4 ⟨rfl, hb4⟩
    have h5 := HHD.out w4 (vb_t HB3.out hb4)
    have HB4 := hid_intro (vb_t HB3.out hb4)
    clear h4 hb4
    go_wp2_with fail
    refine h5.mono ?_; rintro e w5 ⟨rfl, hb5⟩
    go_wp2_with fail
    rw [HP.out]
    exact ⟨rfl, vb_t HB4.out hb5⟩
  · have HP2 := hid_intro (fun w' => rpts_ok s (by omega) w' hg)
    have HSN := hid_intro (fun w' (hb : Below w.heap.size w w') (lv : Value) (hS : SI w' (fun _ => False) (lS m) lv) => search_ok (lS m) (by show 2 ≤ 1048576; omega) (r_lS hml) s hs lv w' (HTB.out w' hb) _ hS (nfa_lS m hmr) hg)
    generalize ptsS s = t at HP2 HSN hlen
    have htI : (t.length : Int) ≤ 1048576 := by omega
    have hmI : (m.length : Int) ≤ 1048576 := by omega
    clear hP hT hg0 hR hl hml hmr hg hlen hs
    go_enter Tryz.func3, Tryz.ntmps3
    go_wp2_with fail
    refine h1.mono ?_; rintro e w1 ⟨v1, rfl, ho1, hb1⟩
    have h2 := HC.out w1 _ v1 ho1
    have HB1 := hid_intro hb1
    have hri1 := ho1.ri (fun _ => False) (fun _ _ h => h)
    have HR1 := hid_intro hri1
    obtain ⟨v1a, v1c, hv1, _⟩ := hri1
    subst hv1
    clear h1 hb1 ho1
    go_wp2_with fail
    refine h2.mono ?_; rintro e w2 ⟨sb, rfl, hsi, hb2⟩
    have h3 := HP2.out w2
    have HB2 := hid_intro (vb_t HB1.out hb2)
    have HSI := hid_intro hsi
    have HR2 := hid_intro (HR1.out.kept hb2)
    clear h2 hsi hb2 HR1
    go_wp2_with fail
    refine h3.mono ?_; rintro e w3 ⟨r3, rfl, ho3, hb3⟩
    have h4 := HSN.out w3 (vb_t HB2.out hb3) _ (HSI.out.kept hb3)
    have hii3 := ho3.ii (fun _ => False) (fun _ _ h => h)
    have HI3 := hid_intro hii3
    obtain ⟨ta, tc, hr3, _⟩ := hii3
    subst hr3
    have HR3 := hid_intro (HR2.out.kept hb3)
    have HB3 := hid_intro (vb_t HB2.out hb3)
    clear h3 hb3 ho3 HR2
    go_wp2_with fail
    refine h4.mono ?_; rintro e w4 ⟨b, n, rfl, hsr, hb4⟩
    have hbe := sr_lS m HM.out.2 t hsr
    have HBE := hid_intro hbe
    have HI4 : Hid (∀ w', Below w4.heap.size w4 w' → ∀ i, i < t.length → ∃ bb off, ta = some ⟨bb, off, none⟩ ∧ w'.cell? ⟨bb, off + i, none⟩ = some (.int .i64 (ia t i))) := hid_intro (fun w' hb i hi => by
      obtain ⟨bb, off, cap', e, h1⟩ := ((HI3.out.kept hb4).kept hb).at hi
      injection e with e _ _
      exact ⟨bb, off, e, h1⟩)
    have HR4 : Hid (∀ w', Below w4.heap.size w4 w' → ∀ k, k < m.length → ∃ bb off, v1a = some ⟨bb, off, none⟩ ∧ w'.cell? ⟨bb, off + k * 2, none⟩ = some (.int .i64 (ra m k).1) ∧ w'.cell? ⟨bb, off + k * 2 + 1, none⟩ = some (.int .i64 (ra m k).2)) := hid_intro (fun w' hb k hk => by
      obtain ⟨bb, off, cap', e, h1⟩ := ((HR3.out.kept hb4).kept hb).at hk
      injection e with e _ _
      exact ⟨bb, off, e, h1⟩)
    have HB4 := hid_intro (vb_t HB3.out hb4)
    clear h4 hb4 hsr hbe HI3 HR3
    go_wp2_with fail
    go_loopg [13, 14] t.length (fun mm s13 s14 wr => ∃ (i : Nat) (bb : Bool), s14 = .int .i64 (i : Int) ∧ s13 = .bool bb ∧ mm = t.length - i ∧ Hid (i ≤ t.length ∧ bb = anyI m t i ∧ Below w4.heap.size w4 wr))
    case atStart => exact ⟨0, _, rfl, rfl, by omega, Nat.zero_le _, rfl, Below.refl _ _⟩
    case round =>
      obtain ⟨i, bb, rfl, rfl, rfl, HI⟩ := hrel
      by_cases hlt : (i : Int) < (t.length : Int)
      · have hi : i < t.length := by omega
        have HLT := hid_intro hi
        go_wp2_with fail
        go_loopg [13, 15] m.length (fun mm s13 s15 wr => ∃ (k : Nat) (bb : Bool), s15 = .int .i64 (k : Int) ∧ s13 = .bool bb ∧ mm = m.length - k ∧ Hid (k ≤ m.length ∧ bb = (anyI m t i || (m.take k).any (inR (ia t i))) ∧ Below w4.heap.size w4 wr))
        case atStart => exact ⟨0, _, rfl, rfl, by omega, Nat.zero_le _, by rw [HI.out.2.1]; simp, HI.out.2.2⟩
        case round =>
          obtain ⟨k, bk, rfl, rfl, rfl, HK⟩ := hrel
          by_cases hkl : (k : Int) < (m.length : Int)
          · have hk : k < m.length := by omega
            have HKL := hid_intro hk
            obtain ⟨b1, o1, ht1, q0⟩ := HI4.out wr HK.out.2.2 i HLT.out
            obtain ⟨b2, o2, hv2, g0, g1⟩ := HR4.out wr HK.out.2.2 k hk
            subst ht1 hv2
            have HTK := hid_intro (takeR_any m (ia t i) hk)
            clear hk
            cases bk
            · by_cases h1 : ia t i ≥ (ra m k).1
              · by_cases h2 : ia t i ≤ (ra m k).2
                · have HEQ : Hid (true = (anyI m t i || (m.take (k + 1)).any (inR (ia t i)))) := hid_intro (by rw [HTK.out, ← Bool.or_assoc, ← HK.out.2.1, decide_eq_true ⟨h1, h2⟩]; rfl)
                  go_wp2_with fail
                  go_quiet (fail)
                  go_wp2_with fail
                  go_roundg (m.length - (k + 1))
                  case measure => have := HKL.out; omega
                  case rel => exact ⟨k + 1, _, by simp, rfl, rfl, HKL.out, by simpa [h1, h2] using HEQ.out, bel_drewN HK.out.2.2 _⟩
                · have hd : decide (ia t i ≤ (ra m k).2) = false := decide_eq_false h2
                  have HEQ : Hid (false = (anyI m t i || (m.take (k + 1)).any (inR (ia t i)))) := hid_intro (by rw [HTK.out, ← Bool.or_assoc, ← HK.out.2.1, decide_eq_false (fun h => h2 h.2)]; rfl)
                  go_wp2_with fail
                  go_quiet (fail)
                  go_wp2_with fail
                  go_roundg (m.length - (k + 1))
                  case measure => have := HKL.out; omega
                  case rel => exact ⟨k + 1, _, by simp, rfl, rfl, HKL.out, by simpa [h1, h2] using HEQ.out, bel_drewN HK.out.2.2 _⟩
              · have hd : decide (ia t i ≥ (ra m k).1) = false := decide_eq_false h1
                have HEQ : Hid (false = (anyI m t i || (m.take (k + 1)).any (inR (ia t i)))) := hid_intro (by rw [HTK.out, ← Bool.or_assoc, ← HK.out.2.1, decide_eq_false (fun h => h1 h.1)]; rfl)
                go_wp2_with fail
                go_quiet (fail)
                go_wp2_with fail
                go_roundg (m.length - (k + 1))
                case measure => have := HKL.out; omega
                case rel => exact ⟨k + 1, _, by simp, rfl, rfl, HKL.out, by simpa [h1] using HEQ.out, bel_drewN HK.out.2.2 _⟩
            · have HEQ : Hid (true = (anyI m t i || (m.take (k + 1)).any (inR (ia t i)))) := hid_intro (by rw [HTK.out, ← Bool.or_assoc, ← HK.out.2.1]; rfl)
              go_wp2_with fail
              go_quiet (fail)
              go_wp2_with fail
              go_roundg (m.length - (k + 1))
              case measure => have := HKL.out; omega
              case rel => exact ⟨k + 1, _, by simp, rfl, rfl, HKL.out, HEQ.out, bel_drewN HK.out.2.2 _⟩
          · have hke : k = m.length := by have := HK.out.1; omega
            have HEQ : Hid (bk = anyI m t (i + 1)) := hid_intro (by rw [anyI_succ m t HLT.out, HK.out.2.1, hke, List.take_length]; rfl)
            go_wp2_with fail
            go_roundg (t.length - (i + 1))
            case measure => have := HLT.out; omega
            case rel => exact ⟨i + 1, _, by simp, rfl, rfl, HLT.out, HEQ.out, HK.out.2.2⟩
      · have hie : i = t.length := by have := HI.out.1; omega
        obtain rfl : bb = b := by rw [HI.out.2.1, hie, HBE.out]
        have h5 := HHD.out wr (vb_t HB4.out HI.out.2.2)
        have HB5 := hid_intro (vb_t HB4.out HI.out.2.2)
        go_wp2_with fail
        refine h5.mono ?_; rintro e w5 ⟨rfl, hb5⟩
        go_wp2_with fail
        rw [HP.out]
        exact ⟨by simp, vb_t HB5.out hb5⟩
end Go.Proofs.YtoinlmfodmgohaaGreatDoor
