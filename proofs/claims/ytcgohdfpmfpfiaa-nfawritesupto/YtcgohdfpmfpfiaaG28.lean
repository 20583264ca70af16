/-
  A count, compiled. Conditions: there is room.
  Trees in which nothing is longer than a bound. No condition.
-/
import Derived.Test.YtcgohdfpmfpfiaaXBD
import Derived.Test.YtcgohdfpmfpfiaaX2
namespace Go.Proofs.Ytcgohdfpmfpfiaa
open Go.RowKit
attribute [local go_sem] setCell_drewN alloc_drewN

theorem bldL_one (y : RX) : bldL [y] = bld y := by funext n; simp [bldL]
theorem szL_one (y : RX) : szL [y] = szX y := by simp [szL]
/-- What is new at the end was new. -/
theorem But.fourTwo {w w1 w2 : World} {lb sb A R : Nat} (h1 : But (two lb sb) w w1) (h2 : But (four lb sb A R) w1 w2) (hA : w.heap.size ≤ A) (hR : w.heap.size ≤ R) : But (two lb sb) w w2 :=
  ⟨h2.os.trans h1.os, h2.tape.trans h1.tape, h2.output.trans h1.output, Nat.le_trans h1.size h2.size, fun k hk hn => (h2.block k (Nat.lt_of_lt_of_le hk h1.size) (fun e => by
    rcases e with e | e | e
    · exact hn e
    · omega
    · omega)).trans (h1.block k hk hn)⟩
set_option maxRecDepth 100000 in
set_option maxHeartbeats 6400000 in
theorem repeat1_any (lb sb cap : Nat) (y : RX) (ao : Option Addr) (cp : Nat) (G : Nat → Nat → Value) (w : World) (hp : PartsOK w lb sb cap [y] ao cp G) (hy : YOK y) (ln : Nat) (hln : ln ≤ 1000) (hi : Int) (hhi : hi = -1 ∨ (ln : Int) ≤ hi ∧ hi ≤ 1000) (r : List (Int × Int)) (z : Bool) (B0 Xb : Nat) (Z : List Nat) (L : List ST)
    (c0 : w.cell? ⟨B0, 0, none⟩ = some (.pointer (some ⟨lb, 0, none⟩))) (c2 : w.cell? ⟨Xb, 2, none⟩ = some (.int .i64 (ln : Int))) (c3 : w.cell? ⟨Xb, 3, none⟩ = some (.int .i64 hi)) (c5 : w.cell? ⟨Xb, 5, none⟩ = some (.slice ao 1 cp)) (n0 : ¬ two lb sb B0) (nx : ¬ two lb sb Xb)
    (h : LZ w lb sb cap Z L) (hroom : L.length + szX (.mk 5 r (ln : Int) hi z [y]) ≤ cap) :
    Calls Try.prog 46 #[.pointer (some ⟨B0, 0, none⟩), .pointer (some ⟨Xb, 0, none⟩)] w fun e w' => e = .returned (.tuple #[]) ∧ LZ w' lb sb cap Z (L ++ bld (.mk 5 r (ln : Int) hi z [y]) L.length) ∧ But (two lb sb) w w' := by
  obtain ⟨b, off, rfl, hnb, hcells⟩ := hp.cells.resolve_left (by simp)
  have hc0 := hcells 0 (by simp)
  simp only [Nat.zero_mul, Nat.add_zero] at hc0
  obtain ⟨x0, x1, x2, x3, x4, x5, x6, x7, x8, x9, e0, e1, e2, e3, e4, e5⟩ := hp.six 0 (by simp)
  have hpart := fun w' hb => hp.part 0 (by simp) w' hb
  rw [e0, e1, e2, e3, e4, e5] at hpart
  have HS : Hid (∀ w', But (two lb sb) w w' → w'.cell? ⟨B0, 0, none⟩ = some (.pointer (some ⟨lb, 0, none⟩)) ∧ w'.cell? ⟨Xb, 2, none⟩ = some (.int .i64 (ln : Int)) ∧ w'.cell? ⟨Xb, 3, none⟩ = some (.int .i64 hi) ∧ w'.cell? ⟨Xb, 5, none⟩ = some (.slice (some ⟨b, off, none⟩) 1 cp) ∧ w'.cell? ⟨b, off, none⟩ = some (.int .i64 x0) ∧ w'.cell? ⟨b, off + 1, none⟩ = some (.slice x1 x2 x3) ∧ w'.cell? ⟨b, off + 2, none⟩ = some (.int .i64 x4) ∧ w'.cell? ⟨b, off + 3, none⟩ = some (.int .i64 x5) ∧ w'.cell? ⟨b, off + 4, none⟩ = some (.bool x6) ∧ w'.cell? ⟨b, off + 5, none⟩ = some (.slice x7 x8 x9)) := hid_intro (fun w' hb =>
    ⟨cell_but c0 n0 hb, cell_but c2 nx hb, cell_but c3 nx hb, cell_but c5 nx hb, (cell_but (hc0 0 (by omega)) hnb hb).trans (by rw [e0]), (cell_but (hc0 1 (by omega)) hnb hb).trans (by rw [e1]), (cell_but (hc0 2 (by omega)) hnb hb).trans (by rw [e2]), (cell_but (hc0 3 (by omega)) hnb hb).trans (by rw [e3]), (cell_but (hc0 4 (by omega)) hnb hb).trans (by rw [e4]), (cell_but (hc0 5 (by omega)) hnb hb).trans (by rw [e5])⟩)
  rw [szX_5, szL_one, Int.toNat_natCast] at hroom
  rw [bld_5, szL_one, bldL_one, Int.toNat_natCast]
  obtain ⟨P, hP⟩ : ∃ P : Ending → World → Prop, P = fun e w' => e = .returned (.tuple #[]) ∧ LZ w' lb sb cap Z (L ++ (if hi = -1 then rep (bld y) (szX y) L.length ln ++ (⟨2, [], ((L.length + ln * szX y : Nat) : Int) + 1, ((L.length + ln * szX y + (szX y + 2) : Nat) : Int)⟩ :: bld y (L.length + ln * szX y + 1) ++ [⟨2, [], ((L.length + ln * szX y : Nat) : Int), ((L.length + ln * szX y : Nat) : Int)⟩])
      else rep (bld y) (szX y) L.length ln ++ rep (fun p => ⟨2, [], (p : Int) + 1, ((L.length + ln * szX y + (hi - (ln : Int)).toNat * (szX y + 1) : Nat) : Int)⟩ :: bld y (p + 1)) (szX y + 1) (L.length + ln * szX y) (hi - (ln : Int)).toNat)) ∧ But (two lb sb) w w' := ⟨_, rfl⟩
  rw [← hP]
  have HP := hid_intro hP
  have HPA := hid_intro (fun w' (hb : Below w.heap.size w w') => hpart w' (But.ofBelow hb))
  have HOF := hid_intro (fun w' fv (hb : Below w.heap.size w w') (hf : FnOK w' lb sb cap y fv) => often_any lb sb cap y fv Z L w' hf (h.below hb))
  have HM := hid_intro (And.intro hroom (And.intro hy (And.intro hln hhi)))
  clear hP hp hcells hc0 hpart h c0 c2 c3 c5 n0 nx hnb e0 e1 e2 e3 e4 e5 hroom hy hln hhi
  go_enter Try.func46, Try.ntmps46
  go_wp2_with fail
  go_region_held3 (fun w' => w'.cell? ⟨B0, 0, none⟩ = some (.pointer (some ⟨lb, 0, none⟩)) ∧ w'.cell? ⟨Xb, 2, none⟩ = some (.int .i64 (ln : Int)) ∧ w'.cell? ⟨Xb, 3, none⟩ = some (.int .i64 hi) ∧ w'.cell? ⟨Xb, 5, none⟩ = some (.slice (some ⟨b, off, none⟩) 1 cp) ∧ w'.cell? ⟨b, off, none⟩ = some (.int .i64 x0) ∧ w'.cell? ⟨b, off + 1, none⟩ = some (.slice x1 x2 x3) ∧ w'.cell? ⟨b, off + 2, none⟩ = some (.int .i64 x4) ∧ w'.cell? ⟨b, off + 3, none⟩ = some (.int .i64 x5) ∧ w'.cell? ⟨b, off + 4, none⟩ = some (.bool x6) ∧ w'.cell? ⟨b, off + 5, none⟩ = some (.slice x7 x8 x9)) (first | (refine HS.out _ ?_; with_reducible repeat (first | exact But.refl _ _ | refine But.drew ?_ | refine But.below ?_ hb5 | refine But.below ?_ hb4)) | fail) (first | (go_at_call 27; refine (HPA.out _ ?_).mono ?_; (with_reducible repeat (first | exact Below.refl _ _ | refine vb_d ?_)); rintro e w4 ⟨v4, rfl, hfn, hb4⟩) | (go_at_call 47; refine (HOF.out _ _ ?_ hfn).mono ?_; (with_reducible repeat (first | exact Below.refl _ _ | refine vb_d ?_ | refine vb_t ?_ hb4)); rintro e w5 ⟨A, Bl, R, Pb, rfl, hoft, host, hlz, hb5⟩) | fail)
  all_goals
    have hb05 : Below w.heap.size w w5 := by with_reducible repeat (first | exact Below.refl _ _ | refine vb_d ?_ | refine vb_t ?_ hb5 | refine vb_t ?_ hb4)
    have hb04 : Below w.heap.size w w4 := by with_reducible repeat (first | exact Below.refl _ _ | refine vb_d ?_ | refine vb_t ?_ hb4)
    have hge : w.heap.size ≤ A ∧ w.heap.size ≤ R := ⟨Nat.le_trans hb04.size hoft.ge.1, Nat.le_trans hb04.size hoft.ge.2⟩
    have hrun : Run w4 w5 lb sb cap y A Bl R Pb v4 Z L := ⟨hoft, ⟨none, host⟩, hlz⟩
    have hrm : L.length + ln * szX y ≤ cap := by
      have := HM.out.1
      by_cases c : hi = -1
      · rw [if_pos c] at this; omega
      · rw [if_neg c] at this; omega
    have htm := listTimes_any w4 lb sb cap y HM.out.2.1 A Bl R Pb v4 Z L w5 hrun ln HM.out.2.2.1 hrm
    have HB5 := hid_intro (But.ofBelow (X := two lb sb) hb05)
    have HGE := hid_intro hge
    obtain ⟨s0, s2, s3, s5, _⟩ := HS.out w5 (But.ofBelow hb05)
    clear hb04 hb05 hge hrun hrm hoft host hlz hb5 hb4 hfn HOF HPA
    go_wp2_with fail
    refine htm.mono ?_; rintro e w6 ⟨rfl, hrun6, hbt6⟩
    clear s0 s2 s3 s5 htm
    have hb6 : But (two lb sb) w w6 := HB5.out.fourTwo hbt6 HGE.out.1 HGE.out.2
    obtain ⟨s0, s2, s3, s5, _⟩ := HS.out w6 hb6
    have hl6 : (L ++ rep (bld y) (szX y) L.length ln).length = L.length + ln * szX y := by rw [List.length_append, rep_len _ _ HM.out.2.1.len]
    have HB6 := hid_intro hb6
    rcases HM.out.2.2.2 with hh | hh
    · subst hh
      have hlo := loop_any w4 lb sb cap y HM.out.2.1 A Bl R Pb v4 Z _ w6 hrun6 (by rw [hl6]; have := HM.out.1; rw [if_pos rfl] at this; omega)
      rw [hl6] at hlo
      have HE : Hid (∀ w', LZ w' lb sb cap (A :: R :: Z) (L ++ rep (bld y) (szX y) L.length ln ++ (⟨2, [], ((L.length + ln * szX y : Nat) : Int) + 1, ((L.length + ln * szX y + (szX y + 2) : Nat) : Int)⟩ :: bld y (L.length + ln * szX y + 1) ++ [⟨2, [], ((L.length + ln * szX y : Nat) : Int), ((L.length + ln * szX y : Nat) : Int)⟩])) → But (four lb sb A R) w6 w' → P (.returned (.tuple #[])) w') := hid_intro (fun w' h1 h2 => by
        rw [HP.out]
        refine ⟨rfl, ?_, HB6.out.fourTwo h2 HGE.out.1 HGE.out.2⟩
        rw [if_pos rfl, ← List.append_assoc]
        exact h1.sub (fun z hz => by simp [hz]))
      clear hrun6 hbt6 hl6 hb6
      go_wp2_with fail
      refine hlo.mono ?_; rintro e w7 ⟨rfl, hls7, hbt7⟩
      go_wp2_with fail
      go_end0
      exact HE.out w7 hls7 hbt7
    · have hne : ¬ hi = -1 := by omega
      obtain ⟨c, hc⟩ : ∃ c : Nat, hi - (ln : Int) = (c : Int) := ⟨(hi - (ln : Int)).toNat, by omega⟩
      have hcn : (hi - (ln : Int)).toNat = c := by omega
      have hpe := perhaps_any w4 lb sb cap y HM.out.2.1 A Bl R Pb v4 Z _ w6 hrun6 c (by omega) (by rw [hl6]; have := HM.out.1; rw [if_neg hne, hcn] at this; omega)
      rw [hl6] at hpe
      have HE : Hid (∀ w', LZ w' lb sb cap (A :: R :: Z) (L ++ rep (bld y) (szX y) L.length ln ++ rep (fun p => ⟨2, [], (p : Int) + 1, ((L.length + ln * szX y + c * (szX y + 1) : Nat) : Int)⟩ :: bld y (p + 1)) (szX y + 1) (L.length + ln * szX y) c) → But (four lb sb A R) w6 w' → P (.returned (.tuple #[])) w') := hid_intro (fun w' h1 h2 => by
        rw [HP.out]
        refine ⟨rfl, ?_, HB6.out.fourTwo h2 HGE.out.1 HGE.out.2⟩
        rw [if_neg hne, hcn, ← List.append_assoc]
        exact h1.sub (fun z hz => by simp [hz]))
      have hw1 : wrap64 (hi - (ln : Int)) = (c : Int) := by rw [wrap64_of (by omega) (by omega)]; exact hc
      have hw2 : IntKind.i64.wrap (hi - (ln : Int)) = (c : Int) := by simp [IntKind.wrap, IntKind.bits, IntKind.signed]; omega
      clear hrun6 hbt6 hl6 hb6 hcn hc hh
      go_wp2_with fail
      refine hpe.mono ?_; rintro e w7 ⟨rfl, hls7, hbt7⟩
      go_wp2_with fail
      go_end0
      exact HE.out w7 hls7 hbt7
end Go.Proofs.Ytcgohdfpmfpfiaa

namespace Go.Proofs.Ytcgohdfpmfpfiaa

/-- Nothing in it is longer than N. -/
inductive BdX (N : Nat) : RX → Prop
  | mk {k : Int} {r : List (Int × Int)} {lo hi : Int} {z : Bool} {s : List RX} (h1 : r.length ≤ N) (h2 : s.length ≤ N) (h3 : ∀ c ∈ s, BdX N c) : BdX N (.mk k r lo hi z s)
theorem BdX.mono {N M : Nat} {v : RX} (h : BdX N v) (hle : N ≤ M) : BdX M v := by
  induction v using RX.ind with
  | h k r lo hi z s ih =>
    cases h with
    | mk h1 h2 h3 => exact .mk (by omega) (by omega) (fun c hc => ih c hc (h3 c hc))
theorem BdX.r {N : Nat} {k : Int} {r : List (Int × Int)} {lo hi : Int} {z : Bool} {s : List RX} (h : BdX N (.mk k r lo hi z s)) : r.length ≤ N := by cases h; assumption
theorem BdX.s {N : Nat} {k : Int} {r : List (Int × Int)} {lo hi : Int} {z : Bool} {s : List RX} (h : BdX N (.mk k r lo hi z s)) : ∀ c ∈ s, BdX N c := by cases h; assumption
theorem BdX.n {N : Nat} {k : Int} {r : List (Int × Int)} {lo hi : Int} {z : Bool} {s : List RX} (h : BdX N (.mk k r lo hi z s)) : s.length ≤ N := by cases h; assumption
end Go.Proofs.Ytcgohdfpmfpfiaa
