/-
  A tree, or a row of states, that comes in: it lies in memory, and nothing in it is longer than the bulk of what was read. No condition.
-/
import Derived.Test.YtppilokmgdpnnaaGreatDoorJoined39
import Derived.Test.YtppilokmgdpnnaaGreatDoorRows
import Derived.ProofKit
import Derived.OpenShut
import Derived.ShutString
import Derived.ChangeOld
import Derived.Below
import Derived.Deep.DeepHandedRow
import Derived.Deep.Strs
import Derived.LaidLaws
import Derived.SizedLaws
namespace Go.Proofs.YtppilokmgdpnnaaGreatDoor
open Go.ChangeShapes Go.WideShapes Go.ChangeAt Go.RowKit Go.Deep

theorem own : ownKnob Tryz.prog.godebug = none := by kernel_rfl
theorem laidOut : laidOutB Tryz.prog = true := by kernel_rfl
theorem cellsInt : Tryz.prog.cellsOf 3 = 1 := by kernel_rfl
theorem cellsBoolJ : Tryz.prog.cellsOf 4 = 1 := by kernel_rfl
theorem cellsRange : Tryz.prog.cellsOf 46 = 2 := by kernel_rfl
theorem cellsRanges : Tryz.prog.cellsOf 23 = 1 := by kernel_rfl
theorem cellsKindX : Tryz.prog.cellsOf 22 = 1 := by kernel_rfl
theorem cellsRx : Tryz.prog.cellsOf 26 = 6 := by kernel_rfl
theorem cellsRxs : Tryz.prog.cellsOf 24 = 1 := by kernel_rfl
theorem bulk_pos {H : Type} (d : DataW H) : 1 ≤ Rows.uptoBulk d := by
  cases d with
  | lit l => cases l <;> simp [Rows.uptoBulk]
  | _ => simp [Rows.uptoBulk]
theorem bulk_part {H : Type} {d : DataW H} : ∀ {l : List (DataW H)}, d ∈ l → Rows.uptoBulk d ≤ Rows.uptoBulkAll l
  | x :: r, h => by
    simp only [Rows.uptoBulkAll]
    rcases List.mem_cons.1 h with e | e
    · subst e; omega
    · have := bulk_part e; omega
theorem bulk_length {H : Type} : ∀ (l : List (DataW H)), l.length ≤ Rows.uptoBulkAll l
  | [] => by simp
  | x :: r => by
    have := bulk_length r
    have := bulk_pos x
    simp only [Rows.uptoBulkAll, List.length_cons]
    omega
theorem xk_add (b o n : Nat) : (Addr.mk b o none).add n = ⟨b, o + n, none⟩ := by
  unfold Addr.add
  split
  · rename_i h; subst h; rfl
  · rfl
theorem xk_i64 {n : Int} (h : (Lit.int .i64 n).wf = true) : I64 n := by
  simp only [Lit.wf, Bool.and_eq_true, decide_eq_true_eq] at h
  have e1 : IntKind.min .i64 = -9223372036854775808 := by decide
  have e2 : IntKind.max .i64 = 9223372036854775807 := by decide
  rw [e1, e2] at h
  unfold I64
  omega
/-- A range's two cells. -/
def w2 (W : World) (a : Addr) (i : Nat) (q : Int × Int) : Prop := W.cell? ((a.add (i * 2)).add 0) = some (.int .i64 q.1) ∧ W.cell? ((a.add (i * 2)).add 1) = some (.int .i64 q.2)
set_option maxRecDepth 100000 in
/-- Ranges that come in, as a cell. -/
theorem open_rngs2 {H : Type} {enc : TypeId × Value → H} {W : World} {base : Nat} {spare : Nat → Bool} {held : Bool} {fuel : Nat} {cs : List Value} {x : DataW H × List MemPlace}
    (h : DataW.trod enc Tryz.prog W base spare held fuel 23 cs = some x) :
    ∃ (l : List (Int × Int)) (v : Value), cs = [v] ∧ RI W (fun _ => False) l v ∧ l.length ≤ Rows.uptoBulk x.1 := by
  rcases DataW.trod_slice Tryz.underlying23 h with ⟨h5, _⟩ | ⟨a, len0, cap0, elems, rest, m2, hm2, h5, hse, _, hl, hcm, hlen, hel, _, _⟩
  · exact ⟨[], _, h5, RI.nil _ _, Nat.zero_le _⟩
  · have each : ∀ i, i < len0 → ∃ q : Int × Int, W.cells? base (a.add (i * 2)) 2 = some [.int .i64 q.1, .int .i64 q.2] ∧ I64 q.1 ∧ I64 q.2 := fun i hi => by
      have := hel i hi
      rw [cellsRange, List.getElem?_eq_getElem (by omega)] at this
      obtain ⟨cs', g1, g2⟩ := Option.bind_eq_some_iff.1 this
      obtain ⟨y0, y1, n, _, hlc, u0, u1⟩ := trod_struct2 Tryz.underlying46 g2
      rw [cellsRange] at hlc
      match cs', hlc with
      | [c0, c1], _ =>
      simp only [cellsInt, List.drop, List.take] at u0 u1
      obtain ⟨p0, e1, _, hx⟩ := DataW.trod_int Tryz.underlying3 u0
      obtain ⟨p1, e2, _, hy⟩ := DataW.trod_int Tryz.underlying3 u1
      simp only [List.cons.injEq, and_true] at e1 e2
      subst e1 e2
      exact ⟨⟨p0, p1⟩, g1, xk_i64 hx, xk_i64 hy⟩
    haveI : Inhabited (Int × Int) := ⟨⟨0, 0⟩⟩
    obtain ⟨Q, hQ⟩ := choose_lt each
    have hra : ∀ i, i < len0 → ra ((List.range len0).map Q) i = Q i := fun i hi => by
      rw [ra_get (by simpa using hi)]; simp
    refine ⟨(List.range len0).map Q, _, h5, ⟨some a, cap0, by simp, by simpa using hl, hcm, fun r hr => ?_, ?_⟩, ?_⟩
    · obtain ⟨i, hi, rfl⟩ := List.mem_map.1 hr
      exact (hQ i (List.mem_range.1 hi)).2
    · by_cases h0 : len0 = 0
      · subst h0; exact Or.inl rfl
      · right
        have hcell : ∀ i, i < len0 → w2 W a i (Q i) := fun i hi => by
          obtain ⟨_, _, hc⟩ := World.cells?_some (hQ i hi).1
          exact ⟨(hc 0 (by omega)).trans rfl, (hc 1 (by omega)).trans rfl⟩
        have hsp : a.spot = none := by simpa [Addr.add] using World.cell?_spot (hcell 0 (by omega)).1
        obtain ⟨b, off, spot⟩ := a
        simp only at hsp
        subst hsp
        refine ⟨b, off, rfl, fun h => h, fun i hi => ?_⟩
        have hi' : i < len0 := by simpa using hi
        have := hcell i hi'
        rw [w2, xk_add, xk_add, xk_add] at this
        rw [hra i hi']
        exact this
    · have e1 : Rows.uptoBulk x.1 = Rows.uptoBulkAll (elems.map (·.1)) + Rows.uptoBulkAll (rest.map (·.1)) + 1 := by
        rw [hse]; rfl
      have e2 := bulk_length (elems.map (·.1))
      rw [List.length_map] at e2 ⊢
      rw [List.length_range]
      omega
theorem trod_struct4 {H : Type} {enc : TypeId × Value → H} {P : Program} {w : World} {base : Nat} {spare : Nat → Bool} {held : Bool} {t : TypeId} {f0 f1 f2 f3 : Field} {fuel : Nat} {cs : List Value} {x : DataW H × List MemPlace} (ht : P.underlying t = some (.struct #[f0, f1, f2, f3])) (h : DataW.trod enc P w base spare held fuel t cs = some x) :
    ∃ y0 y1 y2 y3 n, fuel = n + 1 ∧ x = (.agg [y0.1, y1.1, y2.1, y3.1], y0.2 ++ (y1.2 ++ (y2.2 ++ y3.2))) ∧ cs.length = P.cellsOf t ∧ DataW.trod enc P w base spare held n f0.type ((cs.drop f0.offset).take (P.cellsOf f0.type)) = some y0 ∧
      DataW.trod enc P w base spare held n f1.type ((cs.drop f1.offset).take (P.cellsOf f1.type)) = some y1 ∧ DataW.trod enc P w base spare held n f2.type ((cs.drop f2.offset).take (P.cellsOf f2.type)) = some y2 ∧
      DataW.trod enc P w base spare held n f3.type ((cs.drop f3.offset).take (P.cellsOf f3.type)) = some y3 := by
  obtain ⟨xs, n, hn, rfl, hl, hlen, hf⟩ := DataW.trod_struct ht h
  match xs, hlen with
  | [y0, y1, y2, y3], _ => exact ⟨y0, y1, y2, y3, n, hn, by simp, hl, by simpa using hf 0 f0 rfl, by simpa using hf 1 f1 rfl, by simpa using hf 2 f2 rfl, by simpa using hf 3 f3 rfl⟩

theorem trod_struct6 {H : Type} {enc : TypeId × Value → H} {P : Program} {w : World} {base : Nat} {spare : Nat → Bool} {held : Bool} {t : TypeId} {f0 f1 f2 f3 f4 f5 : Field} {fuel : Nat} {cs : List Value} {x : DataW H × List MemPlace} (ht : P.underlying t = some (.struct #[f0, f1, f2, f3, f4, f5])) (h : DataW.trod enc P w base spare held fuel t cs = some x) :
    ∃ y0 y1 y2 y3 y4 y5 n, fuel = n + 1 ∧ x = (.agg [y0.1, y1.1, y2.1, y3.1, y4.1, y5.1], y0.2 ++ (y1.2 ++ (y2.2 ++ (y3.2 ++ (y4.2 ++ y5.2))))) ∧ cs.length = P.cellsOf t ∧ DataW.trod enc P w base spare held n f0.type ((cs.drop f0.offset).take (P.cellsOf f0.type)) = some y0 ∧
      DataW.trod enc P w base spare held n f1.type ((cs.drop f1.offset).take (P.cellsOf f1.type)) = some y1 ∧ DataW.trod enc P w base spare held n f2.type ((cs.drop f2.offset).take (P.cellsOf f2.type)) = some y2 ∧
      DataW.trod enc P w base spare held n f3.type ((cs.drop f3.offset).take (P.cellsOf f3.type)) = some y3 ∧ DataW.trod enc P w base spare held n f4.type ((cs.drop f4.offset).take (P.cellsOf f4.type)) = some y4 ∧ DataW.trod enc P w base spare held n f5.type ((cs.drop f5.offset).take (P.cellsOf f5.type)) = some y5 := by
  obtain ⟨xs, n, hn, rfl, hl, hlen, hf⟩ := DataW.trod_struct ht h
  match xs, hlen with
  | [y0, y1, y2, y3, y4, y5], _ => exact ⟨y0, y1, y2, y3, y4, y5, n, hn, by simp, hl, by simpa using hf 0 f0 rfl, by simpa using hf 1 f1 rfl, by simpa using hf 2 f2 rfl, by simpa using hf 3 f3 rfl, by simpa using hf 4 f4 rfl, by simpa using hf 5 f5 rfl⟩

set_option maxRecDepth 100000 in
/-- A tree that comes in. -/
theorem open_rx2 {H : Type} {enc : TypeId × Value → H} {w : World} {base : Nat} {spare : Nat → Bool} {held : Bool} : ∀ (fuel : Nat) (cs : List Value) (x : DataW H × List MemPlace),
    DataW.trod enc Tryz.prog w base spare held fuel 26 cs = some x → ∃ v f, cs = [f 0, f 1, f 2, f 3, f 4, f 5] ∧ XI w (fun _ => False) v f ∧ BdX (Rows.uptoBulk x.1) v := by
  intro fuel
  induction fuel using Nat.strongRecOn with
  | _ fuel ih =>
  intro cs x h
  obtain ⟨y0, y1, y2, y3, y4, y5, m, hm, hxe, hlen, t0, t1, t2, t3, t4, t5⟩ := trod_struct6 Tryz.underlying26 h
  rw [cellsRx] at hlen
  match cs, hlen with
  | [c0, c1, c2, c3, c4, c5], _ =>
  simp only [cellsKindX, cellsInt, cellsBoolJ, cellsRanges, cellsRxs, List.drop, List.take] at t0 t1 t2 t3 t4 t5
  obtain ⟨k, h0, _, hk⟩ := DataW.trod_int Tryz.underlying22 t0
  obtain ⟨r, v1, h1, hR, hrb⟩ := open_rngs2 t1
  obtain ⟨lo, h2, _, hlo⟩ := DataW.trod_int Tryz.underlying3 t2
  obtain ⟨hi, h3, _, hhi⟩ := DataW.trod_int Tryz.underlying3 t3
  obtain ⟨z, h4, _⟩ := DataW.trod_bool Tryz.underlying4 t4
  simp only [List.cons.injEq, and_true] at h0 h1 h2 h3 h4
  subst h0 h1 h2 h3 h4
  have hbx : Rows.uptoBulk x.1 = Rows.uptoBulk y0.1 + (Rows.uptoBulk y1.1 + (Rows.uptoBulk y2.1 + (Rows.uptoBulk y3.1 + (Rows.uptoBulk y4.1 + (Rows.uptoBulk y5.1 + 0))))) + 1 := by rw [hxe]; rfl
  have hb1 : r.length ≤ Rows.uptoBulk x.1 := by omega
  have hw : I64 k ∧ I64 lo ∧ I64 hi := ⟨xk_i64 hk, xk_i64 hlo, xk_i64 hhi⟩
  rcases DataW.trod_slice Tryz.underlying24 t5 with ⟨h5, _⟩ | ⟨a, len, cap, elems, rest, m2, hm2, h5, hse, _, hl, hcm, hlen, hel, _, _⟩
  · simp only [List.cons.injEq, and_true] at h5
    subst h5
    exact ⟨.mk k r lo hi z [], fun i => [Value.int .i64 k, c1, .int .i64 lo, .int .i64 hi, .bool z, .slice none 0 0].getD i .nilIface, rfl,
      XI.mk none 0 (fun _ _ => .nilIface) rfl hR rfl rfl rfl rfl ⟨Nat.le_refl _, by unfold maxLen; omega⟩ hw (Or.inl rfl) (fun i hi => absurd hi (by simp)), BdX.mk hb1 (Nat.zero_le _) (fun c hc => absurd hc (by simp))⟩
  · simp only [List.cons.injEq, and_true] at h5
    subst h5
    have each : ∀ i, i < len → ∃ q : RX × (Nat → Value), w.cells? base (a.add (i * 6)) 6 = some [q.2 0, q.2 1, q.2 2, q.2 3, q.2 4, q.2 5] ∧ XI w (fun _ => False) q.1 q.2 ∧ BdX (Rows.uptoBulk x.1) q.1 := fun i hi => by
      have := hel i hi
      rw [cellsRx, List.getElem?_eq_getElem (by omega)] at this
      obtain ⟨cs', g1, g2⟩ := Option.bind_eq_some_iff.1 this
      obtain ⟨v, f, rfl, hv, hvb⟩ := ih m2 (by omega) cs' _ g2
      refine ⟨⟨v, f⟩, g1, hv, hvb.mono ?_⟩
      have e1 : Rows.uptoBulk y5.1 = Rows.uptoBulkAll (elems.map (·.1)) + Rows.uptoBulkAll (rest.map (·.1)) + 1 := by rw [hse]; rfl
      have e2 := bulk_part (l := elems.map (·.1)) (List.mem_map.2 ⟨_, List.getElem_mem (show i < elems.length by omega), rfl⟩)
      omega
    haveI : Inhabited (RX × (Nat → Value)) := ⟨⟨.mk 0 [] 0 0 false [], fun _ => .nilIface⟩⟩
    obtain ⟨Q, hQ⟩ := choose_lt each
    refine ⟨.mk k r lo hi z ((List.range len).map fun i => (Q i).1), fun i => [Value.int .i64 k, c1, .int .i64 lo, .int .i64 hi, .bool z, .slice (some a) len cap].getD i .nilIface, rfl,
      XI.mk (some a) cap (fun i => (Q i).2) rfl hR rfl rfl rfl (by simp) ⟨by simpa using hl, hcm⟩ hw ?_ (fun i hi => ?_), BdX.mk hb1 ?_ (fun c hc => ?_)⟩
    · by_cases h0 : len = 0
      · subst h0; exact Or.inl rfl
      · right
        have hcell : ∀ i, i < len → ∀ j, j < 6 → w.cell? ((a.add (i * 6)).add j) = some ((Q i).2 j) := fun i hi j hj => by
          obtain ⟨_, _, hc⟩ := World.cells?_some (hQ i hi).1
          rw [hc j hj]
          match j, hj with
          | 0, _ => rfl
          | 1, _ => rfl
          | 2, _ => rfl
          | 3, _ => rfl
          | 4, _ => rfl
          | 5, _ => rfl
        have hsp : a.spot = none := by simpa [Addr.add] using World.cell?_spot (hcell 0 (by omega) 0 (by omega))
        obtain ⟨b, off, spot⟩ := a
        simp only at hsp
        subst hsp
        refine ⟨b, off, rfl, fun h => h, fun i hi j hj => ?_⟩
        have hi' : i < len := by simpa using hi
        have := hcell i hi' j hj
        rw [xk_add, xk_add] at this
        exact this
    · have hi' : i < len := by simpa using hi
      simpa using (hQ i hi').2.1
    · have e1 : Rows.uptoBulk y5.1 = Rows.uptoBulkAll (elems.map (·.1)) + Rows.uptoBulkAll (rest.map (·.1)) + 1 := by rw [hse]; rfl
      have e2 := bulk_length (elems.map (·.1))
      rw [List.length_map] at e2 ⊢
      rw [List.length_range]
      omega
    · obtain ⟨i, hi, rfl⟩ := List.mem_map.1 hc
      exact (hQ i (List.mem_range.1 hi)).2.2
set_option maxRecDepth 100000 in
/-- A tree that comes in as an argument. -/
theorem open_rx {H : Type} {enc : TypeId × Value → H} {W : World} {base : Nat} {v : Value} {d : DataW H} {p : List MemPlace} (hv : Value.okWide Tryz.prog W .any base 26 v)
    (h : DataW.Trod enc Tryz.prog W 0 (fun _ => true) true 26 v d p) :
    ∃ (T : RX) (f : Nat → Value), v = xa f ∧ XI W (fun _ => False) T f ∧ BdX (Rows.uptoBulk d) T := by
  obtain ⟨cs, rfl, hsz⟩ := okWide_struct Tryz.underlying26 hv
  rw [cellsRx] at hsz
  obtain ⟨c0, c1, c2, c3, c4, c5, rfl⟩ : ∃ c0 c1 c2 c3 c4 c5, cs = #[c0, c1, c2, c3, c4, c5] := by
    obtain ⟨l⟩ := cs
    match l, hsz with
    | [a, b, c, d, e, f], _ => exact ⟨a, b, c, d, e, f, rfl⟩
  obtain ⟨fuel, hf⟩ := h
  have hf : DataW.trod enc Tryz.prog W 0 (fun _ => true) true fuel 26 [c0, c1, c2, c3, c4, c5] = some (d, p) := hf
  obtain ⟨T, f, hcs, hvi, hbd⟩ := open_rx2 fuel _ _ hf
  simp only [List.cons.injEq, and_true] at hcs
  obtain ⟨rfl, rfl, rfl, rfl, rfl, rfl⟩ := hcs
  exact ⟨T, f, rfl, hvi, hbd⟩
theorem upto_rx {H : Type} {ds : List (DataW H)} (hc : Rows.uptoSmall H ds = true) {j : Nat} {T : RX} {d : DataW H} (hd : ds[j]? = some d) (h : BdX (Rows.uptoBulk d) T) : BdX 1048576 T := by
  have hb : Rows.uptoBulkAll ds ≤ 1048576 := of_decide_eq_true hc
  have hp := bulk_part (List.mem_of_getElem? hd)
  exact h.mono (by omega)
end Go.Proofs.YtppilokmgdpnnaaGreatDoor
