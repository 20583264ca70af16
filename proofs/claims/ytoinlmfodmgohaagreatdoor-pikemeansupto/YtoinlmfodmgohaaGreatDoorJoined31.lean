/-
  The states of a tree at another place; where they lead to. No condition.
  A row of states put again, moved along. Conditions: there is room; numbers of at most 65536; at most 2^40 ranges.
  A part that is compiled the first time alone, and put again from then on. Conditions: there is room.
-/
import Derived.Test.YtoinlmfodmgohaaGreatDoorJoined28
import Derived.Test.YtoinlmfodmgohaaGreatDoorJoined30
namespace Go.Proofs.YtoinlmfodmgohaaGreatDoor

/-- A state moved along. -/
def shiftS (d : Int) (s : ST) : ST := ⟨s.k, s.r, s.a + d, if s.k = 2 then s.b + d else s.b⟩
theorem rep_shift (g g' : Nat → List ST) (q d : Nat) (h : ∀ n, g' (n + d) = (g n).map (shiftS (d : Int))) : ∀ c n, rep g' q (n + d) c = (rep g q n c).map (shiftS (d : Int))
  | 0, _ => rfl
  | c + 1, n => by
    rw [rep, rep, List.map_append, h, show n + d + q = n + q + d by omega, rep_shift g g' q d h c (n + q)]
theorem bldL_shift {l : List RX} {d : Nat} (h : ∀ x ∈ l, ∀ n, bld x (n + d) = (bld x n).map (shiftS (d : Int))) : ∀ n, bldL l (n + d) = (bldL l n).map (shiftS (d : Int)) := by
  induction l with
  | nil => intro n; rfl
  | cons x l ih =>
    intro n
    rw [bldL, bldL, List.map_append, h x (by simp), show n + d + szX x = n + szX x + d by omega, ih (fun y hy => h y (by simp [hy]))]
theorem bldA_shift {l : List RX} {d : Nat} (h : ∀ x ∈ l, ∀ n, bld x (n + d) = (bld x n).map (shiftS (d : Int))) : ∀ n e, bldA l (n + d) (e + d) = (bldA l n e).map (shiftS (d : Int)) := by
  induction l with
  | nil => intro n e; rfl
  | cons x l ih =>
    intro n e
    rw [bldA, bldA, List.map_append, show n + d + szX x + 2 = n + szX x + 2 + d by omega, ih (fun y hy => h y (by simp [hy]))]
    congr 1
    by_cases h0 : l.length = 0
    · rw [if_pos h0, if_pos h0, h x (by simp)]
    · rw [if_neg h0, if_neg h0, show n + d + 1 = n + 1 + d by omega, h x (by simp)]
      simp [shiftS]
      omega
theorem bld_shift (d : Nat) : ∀ (t : RX) (n : Nat), bld t (n + d) = (bld t n).map (shiftS (d : Int)) := by
  intro t
  induction t using RX.ind with
  | h k r lo hi z s ih =>
    intro n
    have hL := bldL_shift (d := d) ih
    have hA := bldA_shift (d := d) ih
    by_cases c5 : k = 5
    · subst c5
      rw [bld_5, bld_5]
      by_cases hh : hi = -1
      · rw [if_pos hh, if_pos hh, List.map_append, rep_shift (bldL s) (bldL s) (szL s) d hL, show n + d + lo.toNat * szL s + 1 = n + lo.toNat * szL s + 1 + d by omega]
        congr 1
        rw [List.map_append, List.map_cons, hL]
        generalize lo.toNat * szL s = m
        simp [shiftS]
        omega
      · rw [if_neg hh, if_neg hh, List.map_append, rep_shift (bldL s) (bldL s) (szL s) d hL, show n + d + lo.toNat * szL s = n + lo.toNat * szL s + d by omega]
        congr 1
        refine rep_shift _ _ _ d (fun p => ?_) _ _
        rw [List.map_cons, show p + d + 1 = p + 1 + d by omega, hL]
        generalize lo.toNat * szL s = m
        generalize (hi - lo).toNat * (szL s + 1) = m2
        simp [shiftS]
        omega
    · rw [bld, bld]
      by_cases c2 : k = 2
      · rw [if_pos c2, if_pos c2]; simp [shiftS]; omega
      · rw [if_neg c2, if_neg c2]
        by_cases c6 : k = 6
        · rw [if_pos c6, if_pos c6]; simp [shiftS]; omega
        · rw [if_neg c6, if_neg c6]
          by_cases c7 : k = 7
          · rw [if_pos c7, if_pos c7]; simp [shiftS]; omega
          · rw [if_neg c7, if_neg c7]
            by_cases c8 : k = 8
            · rw [if_pos c8, if_pos c8]; simp [shiftS]; omega
            · rw [if_neg c8, if_neg c8]
              by_cases c9 : k = 9
              · rw [if_pos c9, if_pos c9]; simp [shiftS]; omega
              · rw [if_neg c9, if_neg c9]
                by_cases c3 : k = 3
                · rw [if_pos c3, if_pos c3]; exact hL n
                · rw [if_neg c3, if_neg c3]
                  by_cases c4 : k = 4
                  · rw [if_pos c4, if_pos c4, show n + d + (szL s + (s.length - 1) * 2) = n + (szL s + (s.length - 1) * 2) + d by omega]; exact hA _ _
                  · rw [if_neg c4, if_neg c4, if_neg c5, if_neg c5]; rfl
/-- Where a state of a tree may lead to. -/
def GoodS (M : Nat) (s : ST) : Prop := 1 ≤ s.k ∧ s.k ≤ 6 ∧ 0 ≤ s.a ∧ s.a ≤ (M : Int) ∧ 0 ≤ s.b ∧ s.b ≤ (M : Int) ∧ (s.k ≠ 2 → s.b = 0) ∧ (s.k ≠ 1 → s.r = []) ∧ rgB s.r = true
theorem GoodS.mono {M N : Nat} {s : ST} (h : GoodS M s) (hl : M ≤ N) : GoodS N s := by
  obtain ⟨h1, h2, h3, h4, h5, h6, h7⟩ := h
  exact ⟨h1, h2, h3, by omega, h5, by omega, h7⟩
theorem rg_nil : rgB [] = true := by decide
theorem good_fork (a b : Int) (M : Nat) (h : 0 ≤ a ∧ a ≤ (M : Int) ∧ 0 ≤ b ∧ b ≤ (M : Int)) : GoodS M ⟨2, [], a, b⟩ :=
  ⟨by simp, by simp, h.1, h.2.1, h.2.2.1, h.2.2.2, fun h => absurd rfl h, fun _ => rfl, rg_nil⟩
theorem good_rep (g : Nat → List ST) (q M : Nat) (h : ∀ n, n + q ≤ M → ∀ s ∈ g n, GoodS M s) : ∀ c n, n + c * q ≤ M → ∀ s ∈ rep g q n c, GoodS M s
  | 0, _, _, s, hs => by simp [rep] at hs
  | c + 1, n, hM, s, hs => by
    rw [Nat.succ_mul] at hM
    rcases List.mem_append.1 hs with hs | hs
    · exact h n (by omega) s hs
    · exact good_rep g q M h c (n + q) (by omega) s hs
theorem good_L {l : List RX} {M : Nat} (h : ∀ x ∈ l, ∀ n, n + szX x ≤ M → ∀ s ∈ bld x n, GoodS M s) : ∀ n, n + szL l ≤ M → ∀ s ∈ bldL l n, GoodS M s := by
  induction l with
  | nil => intro n _ s hs; simp [bldL] at hs
  | cons x l ih =>
    intro n hM s hs
    simp only [szL] at hM
    rcases List.mem_append.1 hs with hs | hs
    · exact h x (by simp) n (by omega) s hs
    · exact ih (fun y hy => h y (by simp [hy])) (n + szX x) (by omega) s hs
theorem good_A {l : List RX} {M : Nat} (h : ∀ x ∈ l, ∀ n, n + szX x ≤ M → ∀ s ∈ bld x n, GoodS M s) : ∀ n e, e ≤ M → n + (szL l + (l.length - 1) * 2) ≤ M → ∀ s ∈ bldA l n e, GoodS M s := by
  induction l with
  | nil => intro n e _ _ s hs; simp [bldA] at hs
  | cons x l ih =>
    intro n e he hM s hs
    simp only [szL, List.length_cons] at hM
    rw [bldA] at hs
    rcases List.mem_append.1 hs with hs | hs
    · by_cases h0 : l.length = 0
      · rw [if_pos h0] at hs
        exact h x (by simp) n (by omega) s hs
      · rw [if_neg h0] at hs
        rcases List.mem_cons.1 hs with rfl | hs
        · exact good_fork _ _ _ (by omega)
        · rcases List.mem_append.1 hs with hs | hs
          · exact h x (by simp) (n + 1) (by omega) s hs
          · obtain rfl := List.mem_singleton.1 hs
            exact good_fork _ _ _ (by omega)
    · by_cases h0 : l.length = 0
      · obtain rfl : l = [] := List.eq_nil_of_length_eq_zero h0
        simp [bldA] at hs
      · exact ih (fun y hy => h y (by simp [hy])) (n + szX x + 2) e he (by omega) s hs
/-- The states of a right tree. -/
theorem bld_good : ∀ (t : RX) (d : Nat), rightB d t = true → ∀ (M n : Nat), n + szX t ≤ M → ∀ s ∈ bld t n, GoodS M s := by
  intro t
  induction t using RX.ind with
  | h k r lo hi z s ih =>
    intro d hr M n hM st hst
    obtain ⟨⟨e, rfl, hre⟩, hk4, hk5⟩ := right_parts hr
    have hrg : rgB r = true := by
      simp only [rightB, Bool.and_eq_true] at hr
      have := hr.1.1
      unfold headB at this
      cases hb : rgB r
      · rw [hb] at this; simp at this
      · rfl
    have hs : ∀ x ∈ s, ∀ n, n + szX x ≤ M → ∀ st ∈ bld x n, GoodS M st := fun x hx n hn => ih x hx e (hre x hx) M n hn
    have one : ∀ (k' : Int), 1 ≤ k' → k' ≤ 6 → k' ≠ 2 → n + 1 ≤ M → GoodS M ⟨k', [], (n : Int) + 1, 0⟩ := fun k' h1 h2 _ h4 => ⟨h1, h2, (by show (0 : Int) ≤ (n : Int) + 1; omega), (by show (n : Int) + 1 ≤ (M : Int); omega), Int.le_refl _, (by show (0 : Int) ≤ (M : Int); omega), fun _ => rfl, fun _ => rfl, rg_nil⟩
    by_cases c5 : k = 5
    · subst c5
      obtain ⟨_, hlo, _, hhi⟩ := hk5 rfl
      rw [szX_5] at hM
      rw [bld_5] at hst
      have hL : ∀ n, n + szL s ≤ M → ∀ st ∈ bldL s n, GoodS M st := good_L hs
      by_cases hh : hi = -1
      · rw [if_pos hh] at hst hM
        rcases List.mem_append.1 hst with hst | hst
        · exact good_rep _ _ M hL _ _ (by omega) st hst
        · rcases List.mem_append.1 hst with hst | hst
          · rcases List.mem_cons.1 hst with rfl | hst
            · exact good_fork _ _ _ (by omega)
            · exact hL _ (by omega) st hst
          · obtain rfl := List.mem_singleton.1 hst
            exact good_fork _ _ _ (by omega)
      · rw [if_neg hh] at hst hM
        rcases List.mem_append.1 hst with hst | hst
        · exact good_rep _ _ M hL _ _ (by omega) st hst
        · refine good_rep _ _ M (fun p hp st hst => ?_) _ _ (by omega) st hst
          rcases List.mem_cons.1 hst with rfl | hst
          · exact good_fork _ _ _ (by omega)
          · exact hL _ (by omega) st hst
    · rw [bld] at hst
      rw [szX] at hM
      by_cases c1 : k = 1
      · subst c1; simp at hst
      · rw [if_neg c1] at hM
        by_cases c3 : k = 3
        · subst c3; simp at hst hM; exact good_L hs n hM st hst
        · by_cases c4 : k = 4
          · subst c4; simp at hst hM; exact good_A hs n _ (by omega) hM st hst
          · rw [if_neg c3, if_neg c4, if_neg c5] at hM
            rw [if_neg c3, if_neg c4, if_neg c5] at hst
            by_cases c2 : k = 2
            · rw [if_pos c2] at hst
              obtain rfl := List.mem_singleton.1 hst
              exact ⟨by simp, by simp, (by show (0 : Int) ≤ (n : Int) + 1; omega), (by show (n : Int) + 1 ≤ (M : Int); omega), Int.le_refl _, (by show (0 : Int) ≤ (M : Int); omega), fun _ => rfl, fun h => absurd rfl h, hrg⟩
            · rw [if_neg c2] at hst
              by_cases c6 : k = 6
              · rw [if_pos c6] at hst; obtain rfl := List.mem_singleton.1 hst; exact one 3 (by omega) (by omega) (by omega) hM
              · rw [if_neg c6] at hst
                by_cases c7 : k = 7
                · rw [if_pos c7] at hst; obtain rfl := List.mem_singleton.1 hst; exact one 4 (by omega) (by omega) (by omega) hM
                · rw [if_neg c7] at hst
                  by_cases c8 : k = 8
                  · rw [if_pos c8] at hst; obtain rfl := List.mem_singleton.1 hst; exact one 5 (by omega) (by omega) (by omega) hM
                  · rw [if_neg c8] at hst
                    by_cases c9 : k = 9
                    · rw [if_pos c9] at hst; obtain rfl := List.mem_singleton.1 hst; exact one 6 (by omega) (by omega) (by omega) hM
                    · rw [if_neg c9] at hst; simp at hst
end Go.Proofs.YtoinlmfodmgohaaGreatDoor

namespace Go.Proofs.YtoinlmfodmgohaaGreatDoor
open Go.RowKit
attribute [local go_sem] setCell_drewN alloc_drewN

/-- Where a row of q states that begins at a place lies. -/
def rof (q a : Nat) : Nat := if q = 0 then 0 else a * 4
theorem wrap64_of {n : Int} (h1 : -9223372036854775808 ≤ n) (h2 : n ≤ 9223372036854775807) : wrap64 n = n := by unfold wrap64; omega
set_option maxRecDepth 100000 in
set_option maxHeartbeats 6400000 in
theorem again_any (lb sb cap : Nat) (Z : List Nat) (L : List ST) (w : World) (h : LZ w lb sb cap Z L) (a q : Nat) (haq : a + q ≤ L.length) (hroom : L.length + q ≤ cap)
    (hbd : ∀ s ∈ (L.drop a).take q, 0 ≤ s.a ∧ s.a ≤ 65536 ∧ 0 ≤ s.b ∧ s.b ≤ 65536 ∧ s.r.length ≤ 1099511627776) :
    Calls Tryz.prog 133 #[.pointer (some ⟨lb, 0, none⟩), .slice (some ⟨sb, rof q a, none⟩) q q, .int .i64 (a : Int)] w fun e w' => e = .returned (.tuple #[]) ∧ LZ w' lb sb cap Z (L ++ ((L.drop a).take q).map (shiftS ((L.length : Int) - (a : Int)))) ∧ But (two lb sb) w w' := by
  have hlen := h.len
  have hnx := nextZ_any lb sb cap Z L w h
  obtain ⟨P, hP⟩ : ∃ P : Ending → World → Prop, P = fun e w' => e = .returned (.tuple #[]) ∧ LZ w' lb sb cap Z (L ++ ((L.drop a).take q).map (shiftS ((L.length : Int) - (a : Int)))) ∧ But (two lb sb) w w' := ⟨_, rfl⟩
  rw [← hP]
  have HP := hid_intro hP
  clear hP
  obtain ⟨D, hDe⟩ : ∃ D, (L.length : Int) - (a : Int) = D := ⟨_, rfl⟩
  have hwr : wrap64 ((L.length : Int) - (a : Int)) = D := by rw [wrap64_of (by omega) (by omega)]; exact hDe
  have hD : 0 ≤ D ∧ D ≤ 65536 := by omega
  have HH := hid_intro h
  have HM := hid_intro (And.intro haq (And.intro hroom hbd))
  have hqI : (q : Int) ≤ 65536 := by omega
  have HRF : Hid (q ≠ 0 → rof q a = a * 4) := hid_intro (fun hq => if_neg hq)
  generalize rof q a = ro at *
  clear h haq hroom hbd hlen
  rw [hDe] at HP
  clear hDe
  go_enter Tryz.func133, Tryz.ntmps133
  go_wp2_with fail
  refine hnx.mono ?_; rintro e w0 ⟨rfl, hb0⟩
  have HB0 := hid_intro hb0
  clear hnx hb0
  go_wp2_with fail
  rw [hwr]
  clear hwr
  go_loopg [15] q (fun m s15 wr => ∃ i : Nat, i ≤ q ∧ m = q - i ∧ s15 = .int .i64 (i : Int) ∧ Hid (LZ wr lb sb cap Z (L ++ ((L.drop a).take i).map (shiftS D)) ∧ But (two lb sb) w wr))
  case atStart => exact ⟨0, Nat.zero_le _, rfl, rfl, by simpa using HH.out.below HB0.out, But.ofBelow HB0.out⟩
  case round =>
    obtain ⟨i, hi, rfl, rfl, HZ⟩ := hrel
    by_cases hlt : i < q
    · have hJ : (i : Int) < (q : Int) := by omega
      obtain rfl : ro = a * 4 := HRF.out (by omega)
      have hai : a + i < L.length := by have := HM.out.1; omega
      have hln : (L ++ ((L.drop a).take i).map (shiftS D)).length = L.length + i := by
        rw [List.length_append, List.length_map, List.length_take, List.length_drop]
        omega
      have hsa : sa (L ++ ((L.drop a).take i).map (shiftS D)) (a + i) = sa L (a + i) := by
        unfold sa; rw [List.getD_eq_getElem?_getD, List.getD_eq_getElem?_getD, List.getElem?_append_left hai]
      have hget : (L.drop a)[i]? = some (sa L (a + i)) := by
        rw [List.getElem?_drop, sa_get hai]; exact List.getElem?_eq_getElem hai
      have hmem : sa L (a + i) ∈ (L.drop a).take q := List.mem_of_getElem? (i := i) (by rw [List.getElem?_take, if_pos hlt]; exact hget)
      have htk : (L.drop a).take (i + 1) = (L.drop a).take i ++ [sa L (a + i)] := by rw [List.take_add_one, hget]; rfl
      have hbs := HM.out.2.2 _ hmem
      obtain ⟨⟨rv, g0, g1, g2, g3, hRx⟩, _⟩ := HZ.out.1.at (a + i) (by rw [hln]; omega)
      rw [hsa] at g0 g2 g3 hRx
      have e4 : (a + i) * 4 = a * 4 + i * 4 := by omega
      rw [e4] at g0 g1 g2 g3
      have HRO : Hid (L.length + i + 1 ≤ cap) := hid_intro (by have := HM.out.2.1; omega)
      have HLN := hid_intro hln
      obtain ⟨ao, cc, rfl, _⟩ := hRx.shape
      generalize sa L (a + i) = x at *
      obtain ⟨K, r, A, B⟩ := x
      dsimp only at *
      have hwA : wrap64 (A + D) = A + D := wrap64_of (by omega) (by omega)
      have hwB : wrap64 (B + D) = B + D := wrap64_of (by omega) (by omega)
      have hrl := hbs.2.2.2.2
      clear hbs hmem hget hsa e4 hai hln
      by_cases k2 : K = 2
      · subst k2
        have HTK : Hid ((L.drop a).take (i + 1) = (L.drop a).take i ++ [⟨2, r, A, B⟩]) := hid_intro htk
        clear htk
        obtain ⟨V, hV⟩ : ∃ V, wr.alloc (.cells #[.int .i64 2, .slice ao r.length cc, .int .i64 (A + D), .int .i64 (B + D)] 94) = V := ⟨_, rfl⟩
        have hbV : Below wr.heap.size wr V := hV ▸ vb_a (Below.refl _ _) _
        have kV : Bk V wr.heap.size #[.int .i64 2, .slice ao r.length cc, .int .i64 (A + D), .int .i64 (B + D)] := hV ▸ Bk.new _ _ _
        have hcl := clone_any r (.slice ao r.length cc) _ V (hRx.kept hbV) hrl
        have HV := hid_intro hV
        have HBV := hid_intro hbV
        have HKV := hid_intro kV
        clear hV hbV kV
        go_wp2_with fail
        rw [HV.out]
        refine hcl.mono ?_; rintro e w3 ⟨v3, rfl, ho3, hb3⟩
        obtain ⟨ao3, c3, rfl⟩ := ho3.shape
        have k3 := HKV.out.bel hb3
        have d1 := k3.cell 1
        have z1 := k3.frz 1
        obtain ⟨V2, hV2⟩ : ∃ V2, w3.setCell ⟨wr.heap.size, 1, none⟩ (.slice ao3 r.length c3) = V2 := ⟨_, rfl⟩
        have hbw3 : Below wr.heap.size wr w3 := vb_t HBV.out hb3
        have hb2 : Below wr.heap.size wr V2 := hV2 ▸ vb_s hbw3 (Nat.le_refl _) _
        have k2 : Bk V2 wr.heap.size #[.int .i64 2, .slice ao3 r.length c3, .int .i64 (A + D), .int .i64 (B + D)] := hV2 ▸ k3.set 1 _ rfl
        have ho2 : OwnR V2 wr.heap.size (.slice ao3 r.length c3) r := by
          rw [← hV2]
          exact (OwnR.away (ho3.mono HBV.out.size) (fun e => by have := (ho3.lt _ e).1; have h9 : wr.heap.size < V.heap.size := HKV.out.lt; simp at this; omega) _)
        have HV2 := hid_intro hV2
        have HB2 := hid_intro hb2
        have HO2 := hid_intro ho2
        have HLZ := hid_intro HZ.out.1
        obtain ⟨M, hM, _, _, _, hown, hRs, _, _⟩ := HZ.out.1
        have hown2 : ∀ w', Below wr.heap.size wr w' → w'.ownsRow 0 94 4 (.slice (some ⟨sb, 0, none⟩) (L.length + i) cap) (L.length + i) (flatS M) := fun w' hb => by
          have := hown.kept (w' := w') (row := none) ⟨hb.os, hb.tape, hb.output, hb.size, fun b hl _ => hb.block b hl⟩ (Or.inr (fun e => by cases e))
          rw [HLN.out] at this
          exact this
        have HO := hid_intro hown2
        have HMR := hid_intro (And.intro hM hRs)
        have HS : Hid (∀ w', But (fun b => b = sb) wr w' → w'.cell? ⟨lb, 0, none⟩ = some (.slice (some ⟨sb, 0, none⟩) (L.length + i) cap) ∧ w'.frozen? ⟨lb, 0, none⟩ = false) := hid_intro (fun w' hb => by
          have hc := HLZ.out.cell
          have e := hb.block lb HLZ.out.lt.1 HLZ.out.ne
          rw [HLN.out] at hc
          exact ⟨(World.cell?_of_block (w := wr) (w' := w') e).trans hc.1, by rw [← hc.2]; simp only [World.frozen?, e]⟩)
        obtain ⟨l2, z2⟩ := HS.out V2 (But.ofBelow hb2)
        have l3 : ∀ o, (V2.alloc o).cell? ⟨lb, 0, none⟩ = some (.slice (some ⟨sb, 0, none⟩) (L.length + i) cap) := fun o => (HS.out _ (But.ofBelow (vb_a hb2 o))).1
        have m0 := k2.cell 0
        have m1 := k2.cell 1
        have m2 := k2.cell 2
        have m3 := k2.cell 3
        have n0 : ∀ o, (V2.alloc o).cell? ⟨wr.heap.size, 0, none⟩ = some (.int .i64 2) := fun o => (k2.al o).cell 0
        have n1 : ∀ o, (V2.alloc o).cell? ⟨wr.heap.size, 1, none⟩ = some (.slice ao3 r.length c3) := fun o => (k2.al o).cell 1
        have n2 : ∀ o, (V2.alloc o).cell? ⟨wr.heap.size, 2, none⟩ = some (.int .i64 (A + D)) := fun o => (k2.al o).cell 2
        have n3 : ∀ o, (V2.alloc o).cell? ⟨wr.heap.size, 3, none⟩ = some (.int .i64 (B + D)) := fun o => (k2.al o).cell 3
        clear hV2 hbw3 hb2 k2 ho2 hM hRs hown hown2 hcl ho3 hb3 k3 hRx
        go_wp2_with fail
        rw [HV2.out]
        clear d1 z1 g0 g1 g2 g3
        go_region_law (first | (refine step_append_st (by rfl) _ _ (by rfl) sb (L.length + i) cap (flatS M) (by rfl) V2.heap.size (.int .i64 2) (.slice ao3 r.length c3) (.int .i64 (A + D)) (.int .i64 (B + D)) (by rfl) HRO.out ⟨rfl, rfl, rfl, rfl⟩ ?_ ?_ ?_; (with_reducible repeat (first | exact Bk.new _ _ _ | refine Bk.dw ?_)); (refine HO.out _ (vb_t HB2.out ?_); with_reducible repeat (first | exact Below.refl _ _ | refine vb_d ?_ | refine vb_a ?_ _)); intro w6 ho6 hg6; have hB6 : But (fun b => b = sb) wr w6 := But.grown (But.ofBelow (vb_t HB2.out (by with_reducible repeat (first | exact Below.refl _ _ | refine vb_d ?_ | refine vb_a ?_ _)))) hg6 (fun b e => by injection e with e; exact Or.inl e.symm); obtain ⟨l6, z6⟩ := HS.out w6 hB6) | fail)
        all_goals
          have hput := LZ.put (w := wr) (lb := lb) (sb := sb) (cap := cap) (Z := Z) ⟨2, r, A + D, (B + D)⟩ (.slice ao3 r.length c3) M HMR.out.1 HLZ.out HMR.out.2 (vb_t HB2.out (by with_reducible repeat (first | exact Below.refl _ _ | refine vb_d ?_ | refine vb_a ?_ _))) hg6 (by rw [HLN.out]; exact ho6) (Or.inl (OwnR.below (w := V2) HO2.out (by with_reducible repeat (first | exact Below.refl _ _ | refine vb_d ?_ | refine vb_a ?_ _))))
          rw [HLN.out] at hput
          have HPU := hid_intro hput
          clear hput ho6 hg6 hB6 l6 z6 l2 z2 l3 m0 m1 m2 m3 n0 n1 n2 n3 HS HO HMR HLZ HO2 HB2 HV2 HKV HBV HV
          go_wp2_with fail
          go_roundg (q - (i + 1))
          case measure => omega
          case rel => exact ⟨i + 1, by omega, rfl, by simp, by
            rw [HTK.out, List.map_append, ← List.append_assoc]
            exact HPU.out.1, HZ.out.2.trans HPU.out.2⟩
      · have HTK : Hid ((L.drop a).take (i + 1) = (L.drop a).take i ++ [⟨K, r, A, B⟩]) := hid_intro htk
        have HK2 : Hid (shiftS D ⟨K, r, A, B⟩ = ⟨K, r, A + D, B⟩) := hid_intro (by unfold shiftS; dsimp only; rw [if_neg k2])
        clear htk
        obtain ⟨V, hV⟩ : ∃ V, wr.alloc (.cells #[.int .i64 K, .slice ao r.length cc, .int .i64 (A + D), .int .i64 B] 94) = V := ⟨_, rfl⟩
        have hbV : Below wr.heap.size wr V := hV ▸ vb_a (Below.refl _ _) _
        have kV : Bk V wr.heap.size #[.int .i64 K, .slice ao r.length cc, .int .i64 (A + D), .int .i64 B] := hV ▸ Bk.new _ _ _
        have hcl := clone_any r (.slice ao r.length cc) _ V (hRx.kept hbV) hrl
        have HV := hid_intro hV
        have HBV := hid_intro hbV
        have HKV := hid_intro kV
        clear hV hbV kV
        go_wp2_with fail
        rw [HV.out]
        refine hcl.mono ?_; rintro e w3 ⟨v3, rfl, ho3, hb3⟩
        obtain ⟨ao3, c3, rfl⟩ := ho3.shape
        have k3 := HKV.out.bel hb3
        have d1 := k3.cell 1
        have z1 := k3.frz 1
        obtain ⟨V2, hV2⟩ : ∃ V2, w3.setCell ⟨wr.heap.size, 1, none⟩ (.slice ao3 r.length c3) = V2 := ⟨_, rfl⟩
        have hbw3 : Below wr.heap.size wr w3 := vb_t HBV.out hb3
        have hb2 : Below wr.heap.size wr V2 := hV2 ▸ vb_s hbw3 (Nat.le_refl _) _
        have k2 : Bk V2 wr.heap.size #[.int .i64 K, .slice ao3 r.length c3, .int .i64 (A + D), .int .i64 B] := hV2 ▸ k3.set 1 _ rfl
        have ho2 : OwnR V2 wr.heap.size (.slice ao3 r.length c3) r := by
          rw [← hV2]
          exact (OwnR.away (ho3.mono HBV.out.size) (fun e => by have := (ho3.lt _ e).1; have h9 : wr.heap.size < V.heap.size := HKV.out.lt; simp at this; omega) _)
        have HV2 := hid_intro hV2
        have HB2 := hid_intro hb2
        have HO2 := hid_intro ho2
        have HLZ := hid_intro HZ.out.1
        obtain ⟨M, hM, _, _, _, hown, hRs, _, _⟩ := HZ.out.1
        have hown2 : ∀ w', Below wr.heap.size wr w' → w'.ownsRow 0 94 4 (.slice (some ⟨sb, 0, none⟩) (L.length + i) cap) (L.length + i) (flatS M) := fun w' hb => by
          have := hown.kept (w' := w') (row := none) ⟨hb.os, hb.tape, hb.output, hb.size, fun b hl _ => hb.block b hl⟩ (Or.inr (fun e => by cases e))
          rw [HLN.out] at this
          exact this
        have HO := hid_intro hown2
        have HMR := hid_intro (And.intro hM hRs)
        have HS : Hid (∀ w', But (fun b => b = sb) wr w' → w'.cell? ⟨lb, 0, none⟩ = some (.slice (some ⟨sb, 0, none⟩) (L.length + i) cap) ∧ w'.frozen? ⟨lb, 0, none⟩ = false) := hid_intro (fun w' hb => by
          have hc := HLZ.out.cell
          have e := hb.block lb HLZ.out.lt.1 HLZ.out.ne
          rw [HLN.out] at hc
          exact ⟨(World.cell?_of_block (w := wr) (w' := w') e).trans hc.1, by rw [← hc.2]; simp only [World.frozen?, e]⟩)
        obtain ⟨l2, z2⟩ := HS.out V2 (But.ofBelow hb2)
        have l3 : ∀ o, (V2.alloc o).cell? ⟨lb, 0, none⟩ = some (.slice (some ⟨sb, 0, none⟩) (L.length + i) cap) := fun o => (HS.out _ (But.ofBelow (vb_a hb2 o))).1
        have m0 := k2.cell 0
        have m1 := k2.cell 1
        have m2 := k2.cell 2
        have m3 := k2.cell 3
        have n0 : ∀ o, (V2.alloc o).cell? ⟨wr.heap.size, 0, none⟩ = some (.int .i64 K) := fun o => (k2.al o).cell 0
        have n1 : ∀ o, (V2.alloc o).cell? ⟨wr.heap.size, 1, none⟩ = some (.slice ao3 r.length c3) := fun o => (k2.al o).cell 1
        have n2 : ∀ o, (V2.alloc o).cell? ⟨wr.heap.size, 2, none⟩ = some (.int .i64 (A + D)) := fun o => (k2.al o).cell 2
        have n3 : ∀ o, (V2.alloc o).cell? ⟨wr.heap.size, 3, none⟩ = some (.int .i64 B) := fun o => (k2.al o).cell 3
        clear hV2 hbw3 hb2 k2 ho2 hM hRs hown hown2 hcl ho3 hb3 k3 hRx
        go_wp2_with fail
        rw [HV2.out]
        clear d1 z1 g0 g1 g2 g3
        go_region_law (first | (refine step_append_st (by rfl) _ _ (by rfl) sb (L.length + i) cap (flatS M) (by rfl) V2.heap.size (.int .i64 K) (.slice ao3 r.length c3) (.int .i64 (A + D)) (.int .i64 B) (by rfl) HRO.out ⟨rfl, rfl, rfl, rfl⟩ ?_ ?_ ?_; (with_reducible repeat (first | exact Bk.new _ _ _ | refine Bk.dw ?_)); (refine HO.out _ (vb_t HB2.out ?_); with_reducible repeat (first | exact Below.refl _ _ | refine vb_d ?_ | refine vb_a ?_ _)); intro w6 ho6 hg6; have hB6 : But (fun b => b = sb) wr w6 := But.grown (But.ofBelow (vb_t HB2.out (by with_reducible repeat (first | exact Below.refl _ _ | refine vb_d ?_ | refine vb_a ?_ _)))) hg6 (fun b e => by injection e with e; exact Or.inl e.symm); obtain ⟨l6, z6⟩ := HS.out w6 hB6) | fail)
        all_goals
          have hput := LZ.put (w := wr) (lb := lb) (sb := sb) (cap := cap) (Z := Z) ⟨K, r, A + D, B⟩ (.slice ao3 r.length c3) M HMR.out.1 HLZ.out HMR.out.2 (vb_t HB2.out (by with_reducible repeat (first | exact Below.refl _ _ | refine vb_d ?_ | refine vb_a ?_ _))) hg6 (by rw [HLN.out]; exact ho6) (Or.inl (OwnR.below (w := V2) HO2.out (by with_reducible repeat (first | exact Below.refl _ _ | refine vb_d ?_ | refine vb_a ?_ _))))
          rw [HLN.out] at hput
          have HPU := hid_intro hput
          clear hput ho6 hg6 hB6 l6 z6 l2 z2 l3 m0 m1 m2 m3 n0 n1 n2 n3 HS HO HMR HLZ HO2 HB2 HV2 HKV HBV HV
          go_wp2_with fail
          go_roundg (q - (i + 1))
          case measure => omega
          case rel => exact ⟨i + 1, by omega, rfl, by simp, by
            rw [HTK.out, List.map_append, List.map_singleton, HK2.out, ← List.append_assoc]
            exact HPU.out.1, HZ.out.2.trans HPU.out.2⟩
    · have hJ : ¬ (i : Int) < (q : Int) := by omega
      have hiq : i = q := by omega
      go_wp2_with fail
      go_end0
      rw [HP.out]
      have := HZ.out
      rw [hiq] at this
      exact ⟨rfl, this⟩
end Go.Proofs.YtoinlmfodmgohaaGreatDoor

namespace Go.Proofs.YtoinlmfodmgohaaGreatDoor
open Go.RowKit
attribute [local go_sem] setCell_drewN alloc_drewN

set_option maxRecDepth 100000 in
set_option maxHeartbeats 1600000 in
theorem fromZ_any (lb sb cap : Nat) (Z : List Nat) (L : List ST) (w : World) (h : LZ w lb sb cap Z L) (a : Nat) (ha : a ≤ L.length) :
    Calls Tryz.prog 52 #[.pointer (some ⟨lb, 0, none⟩), .int .i64 (a : Int)] w fun e w' => e = .returned (.slice (some ⟨sb, rof (L.length - a) a, none⟩) (L.length - a) (L.length - a)) ∧ Below w.heap.size w w' := by
  have hc := h.cell.1
  have hlen := h.len
  have hLI : (L.length : Int) ≤ (cap : Int) := by omega
  have haI : (a : Int) ≤ (L.length : Int) := by omega
  have haN : (0 : Int) ≤ (a : Int) := by omega
  clear h
  by_cases hq : L.length - a = 0
  · have hea : L.length = a := by omega
    rw [hq]
    have er : rof 0 a = 0 := rfl
    rw [er]
    rw [hea] at hc
    have hcI : (a : Int) ≤ (cap : Int) := by omega
    clear hlen hLI haI hq er
    go_enter Tryz.func52, Tryz.ntmps52
    go_wp2_with fail
    go_quiet (fail)
    all_goals
      go_wp2_with fail
      go_ret
      exact ⟨rfl, by with_reducible repeat (first | exact Below.refl _ _ | refine vb_d ?_ | refine vb_n ?_ _)⟩
  · have er : rof (L.length - a) a = a * 4 := if_neg hq
    have hne : ¬ L.length - a = 0 := hq
    rw [er]
    clear er hq
    go_enter Tryz.func52, Tryz.ntmps52
    go_wp2_with fail
    go_quiet (fail)
    all_goals
      go_wp2_with fail
      go_ret
      exact ⟨rfl, by with_reducible repeat (first | exact Below.refl _ _ | refine vb_d ?_ | refine vb_n ?_ _)⟩
/-- A part as 'often' keeps it: the place of its row, the list, the row, the part itself. -/
structure Oft (wb w : World) (lb sb cap : Nat) (y : RX) (A Bl R Pb : Nat) (fv : Value) : Prop where
  but : But (two lb sb) wb w
  fn : FnOK wb lb sb cap y fv
  cl : w.cell? ⟨Bl, 0, none⟩ = some (.pointer (some ⟨lb, 0, none⟩))
  cp : w.cell? ⟨Pb, 0, none⟩ = some fv
  zA : w.frozen? ⟨A, 0, none⟩ = false
  zR : w.frozen? ⟨R, 0, none⟩ = false
  nl : ¬ two lb sb Bl
  np : ¬ two lb sb Pb
  d : A ≠ R ∧ A ≠ Bl ∧ A ≠ Pb ∧ R ≠ Bl ∧ R ≠ Pb
  ge : wb.heap.size ≤ A ∧ wb.heap.size ≤ R
  lt : lb < wb.heap.size ∧ sb < wb.heap.size
theorem Oft.nA {wb w : World} {lb sb cap : Nat} {y : RX} {A Bl R Pb : Nat} {fv : Value} (h : Oft wb w lb sb cap y A Bl R Pb fv) : ¬ two lb sb A ∧ ¬ two lb sb R := by
  have := h.ge; have := h.lt
  exact ⟨fun e => by rcases e with e | e <;> omega, fun e => by rcases e with e | e <;> omega⟩
theorem frz_but {w w' : World} {X : Nat → Prop} {b o : Nat} {v : Value} (hc : w.cell? ⟨b, o, none⟩ = some v) (h : w.frozen? ⟨b, o, none⟩ = false) (hn : ¬ X b) (hb : But X w w') : w'.frozen? ⟨b, o, none⟩ = false := by
  have e := hb.block b (World.block_lt_of_cell? w _ hc) hn
  rw [← h]; simp only [World.frozen?, e]
/-- Its state: not compiled yet, or its row stands at a place. -/
def OSt (w : World) (sb A R : Nat) (y : RX) (L : List ST) : Option Nat → Prop
  | none => w.cell? ⟨A, 0, none⟩ = some (.int .i64 (-1)) ∧ w.cell? ⟨R, 0, none⟩ = some (.slice none 0 0)
  | some a => w.cell? ⟨A, 0, none⟩ = some (.int .i64 (a : Int)) ∧ w.cell? ⟨R, 0, none⟩ = some (.slice (some ⟨sb, rof (szX y) a, none⟩) (szX y) (szX y)) ∧ a + szX y ≤ L.length ∧ (L.drop a).take (szX y) = bld y a
/-- What the states of a part are. -/
structure YOK (y : RX) : Prop where
  len : ∀ n, (bld y n).length = szX y
  good : ∀ M n, n + szX y ≤ M → ∀ s ∈ bld y n, GoodS M s
  rl : ∀ n, ∀ s ∈ bld y n, s.r.length ≤ 1099511627776
theorem OSt.cells {w : World} {sb A R : Nat} {y : RX} {L : List ST} {st : Option Nat} (h : OSt w sb A R y L st) : (∃ v, w.cell? ⟨A, 0, none⟩ = some v) ∧ ∃ v, w.cell? ⟨R, 0, none⟩ = some v := by
  cases st with
  | none => exact ⟨⟨_, h.1⟩, ⟨_, h.2⟩⟩
  | some a => exact ⟨⟨_, h.1⟩, ⟨_, h.2.1⟩⟩
theorem OSt.but {w w' : World} {sb A R : Nat} {y : RX} {L L' : List ST} {st : Option Nat} {X : Nat → Prop} (h : OSt w sb A R y L st) (hb : But X w w') (hA : ¬ X A) (hR : ¬ X R) (hL : ∀ i, i < L.length → L'[i]? = L[i]?) (hl : L.length ≤ L'.length) : OSt w' sb A R y L' st := by
  cases st with
  | none => exact ⟨cell_but h.1 hA hb, cell_but h.2 hR hb⟩
  | some a =>
    obtain ⟨h1, h2, h3, h4⟩ := h
    refine ⟨cell_but h1 hA hb, cell_but h2 hR hb, by omega, ?_⟩
    rw [← h4]
    apply List.ext_getElem?
    intro i
    rw [List.getElem?_take, List.getElem?_take]
    split
    · rw [List.getElem?_drop, List.getElem?_drop, hL _ (by omega)]
    · rfl
theorem Oft.after {wb w w' : World} {lb sb cap : Nat} {y : RX} {A Bl R Pb : Nat} {fv : Value} (h : Oft wb w lb sb cap y A Bl R Pb fv) (hb : But (two lb sb) w w') (hA : ∃ v, w.cell? ⟨A, 0, none⟩ = some v) (hR : ∃ v, w.cell? ⟨R, 0, none⟩ = some v) : Oft wb w' lb sb cap y A Bl R Pb fv := by
  obtain ⟨va, hA⟩ := hA
  obtain ⟨vr, hR⟩ := hR
  exact ⟨h.but.trans hb, h.fn, cell_but h.cl h.nl hb, cell_but h.cp h.np hb, frz_but hA h.zA h.nA.1 hb, frz_but hR h.zR h.nA.2 hb, h.nl, h.np, h.d, h.ge, h.lt⟩
/-- A store into the place or the row. -/
theorem Oft.store {wb w : World} {lb sb cap : Nat} {y : RX} {A Bl R Pb : Nat} {fv : Value} (h : Oft wb w lb sb cap y A Bl R Pb fv) (x : Nat) (hx : x = A ∨ x = R) (v : Value) : Oft wb (w.setCell ⟨x, 0, none⟩ v) lb sb cap y A Bl R Pb fv := by
  have hd := h.d
  have oth : ∀ b, b ≠ x → (w.setCell ⟨x, 0, none⟩ v).cell? ⟨b, 0, none⟩ = w.cell? ⟨b, 0, none⟩ := fun b hb => World.cell?_setCell_other _ _ _ _ (by intro e; injection e with e; exact hb e.symm)
  refine ⟨h.but.set (Or.inr (by have := h.ge; rcases hx with e | e <;> (subst e; first | exact this.1 | exact this.2))) _, h.fn, ?_, ?_, by rw [World.frozen?_setCell]; exact h.zA, by rw [World.frozen?_setCell]; exact h.zR, h.nl, h.np, h.d, h.ge, h.lt⟩
  · rw [oth Bl (by rcases hx with e | e <;> (subst e; first | exact fun e => hd.2.1 e.symm | exact fun e => hd.2.2.2.1 e.symm))]; exact h.cl
  · rw [oth Pb (by rcases hx with e | e <;> (subst e; first | exact fun e => hd.2.2.1 e.symm | exact fun e => hd.2.2.2.2 e.symm))]; exact h.cp
theorem LZ.storeZ {w : World} {lb sb cap : Nat} {Z : List Nat} {L : List ST} (h : LZ w lb sb cap Z L) (x : Nat) (hx : x ∈ Z) (v : Value) : LZ (w.setCell ⟨x, 0, none⟩ v) lb sb cap Z L :=
  h.carry (Y := fun b => b = x) (But.setS (But.refl _ _) 0 v) (fun b e => Or.inl (by rw [e]; exact hx))
/-- What the call of it leaves. -/
def OPost (wb : World) (lb sb cap : Nat) (y : RX) (A Bl R Pb : Nat) (fv : Value) (Z : List Nat) (L : List ST) (w : World) (e : Ending) (w' : World) : Prop :=
  e = .returned (.tuple #[]) ∧ LZ w' lb sb cap (A :: R :: Z) (L ++ bld y L.length) ∧ Oft wb w' lb sb cap y A Bl R Pb fv ∧ (∃ a, OSt w' sb A R y (L ++ bld y L.length) (some a)) ∧ But (fun b => two lb sb b ∨ b = A ∨ b = R) w w'
theorem But.wide {X Y : Nat → Prop} {w w' : World} (h : But X w w') (hx : ∀ b, X b → Y b) : But Y w w' := ⟨h.os, h.tape, h.output, h.size, fun k hk hy => h.block k hk (fun hx' => hy (hx k hx'))⟩
set_option maxRecDepth 100000 in
set_option maxHeartbeats 3200000 in
theorem oft1_some (wb : World) (lb sb cap : Nat) (y : RX) (hy : YOK y) (A Bl R Pb : Nat) (fv : Value) (Z : List Nat) (L : List ST) (w : World) (ho : Oft wb w lb sb cap y A Bl R Pb fv) (a : Nat) (hs : OSt w sb A R y L (some a)) (h : LZ w lb sb cap (A :: R :: Z) L) (hroom : L.length + szX y ≤ cap) :
    Calls Tryz.prog 132 #[.pointer (some ⟨A, 0, none⟩), .pointer (some ⟨Bl, 0, none⟩), .pointer (some ⟨R, 0, none⟩), .pointer (some ⟨Pb, 0, none⟩)] w (OPost wb lb sb cap y A Bl R Pb fv Z L w) := by
  obtain ⟨c1, c2, h3, h4⟩ := hs
  have c3 := ho.cl
  have hlen := h.len
  have hag := again_any lb sb cap (A :: R :: Z) L w h a (szX y) h3 hroom (by
    rw [h4]
    intro s hsm
    have hg := hy.good L.length a h3 s hsm
    obtain ⟨_, _, g3, g4, g5, g6, _⟩ := hg
    exact ⟨g3, by omega, g5, by omega, hy.rl a s hsm⟩)
  have hsh : ((L.drop a).take (szX y)).map (shiftS ((L.length : Int) - (a : Int))) = bld y L.length := by
    have := bld_shift (L.length - a) y a
    rw [show a + (L.length - a) = L.length by omega] at this
    rw [h4, this]
    congr 2
    omega
  rw [hsh] at hag
  have hpost : ∀ w', LZ w' lb sb cap (A :: R :: Z) (L ++ bld y L.length) → But (two lb sb) w w' → OPost wb lb sb cap y A Bl R Pb fv Z L w (.returned (.tuple #[])) w' := fun w' h1 h2 =>
    ⟨rfl, h1, ho.after h2 ⟨_, c1⟩ ⟨_, c2⟩, ⟨a, OSt.but (st := some a) (L := L) ⟨c1, c2, h3, h4⟩ h2 ho.nA.1 ho.nA.2 (fun i hi => List.getElem?_append_left hi) (by simp)⟩, h2.wide (fun b hb => Or.inl hb)⟩
  have HPO := hid_intro hpost
  have haI : (0 : Int) ≤ (a : Int) := by omega
  generalize OPost wb lb sb cap y A Bl R Pb fv Z L w = P at *
  clear hpost hsh h4 h3 hlen h hroom ho hy
  go_enter Tryz.func132, Tryz.ntmps132
  go_wp2_with fail
  refine hag.mono ?_; rintro e w1 ⟨rfl, hls, hbt⟩
  go_wp2_with fail
  go_end0
  exact HPO.out w1 hls hbt
end Go.Proofs.YtoinlmfodmgohaaGreatDoor
