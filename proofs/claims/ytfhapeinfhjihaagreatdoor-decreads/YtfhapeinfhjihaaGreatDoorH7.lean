/-
  What ref3.Parse answers: the number that a text is, or which error. Conditions: at most 2^47 bytes.
-/
import Derived.Test.YtfhapeinfhjihaaGreatDoorH4
import Derived.Test.YtfhapeinfhjihaaGreatDoorS11
namespace Go.Proofs.YtfhapeinfhjihaaGreatDoor
open Go.RowKit
attribute [local go_sem] setCell_drewN alloc_drewN

theorem wholeL_some {x : Option (P3 × List UInt8)} {p : P3} (h : wholeL x = some p) : x = some (p, []) := by
  match x, h with
  | some (q, r), h =>
    simp only [wholeL] at h
    split at h
    · rename_i e
      rw [← Option.some.inj h, e]
    · cases h
theorem twdw_len (l : List UInt8) : (tw l).length + (dw l).length = l.length := by
  rw [← List.length_append]
  unfold tw dw
  rw [List.takeWhile_append_dropWhile]
theorem cut_len {l : List UInt8} {p : P3} (h : cutL l = some p) : p.int.length + p.frac.length ≤ l.length ∧ p.exp.length ≤ l.length := by
  unfold cutL at h
  split at h
  · cases h
  · have e := behindL_len (wholeL_some h)
    have t := twdw_len (minusL l)
    have m : (minusL l).length ≤ l.length := by
      unfold minusL
      split
      · simp
      · exact Nat.le_refl _
    rw [e.1]
    omega
theorem pl_none {l : List UInt8} (h : cutL l = none) : parseL l = (30, zeroD) := by
  unfold parseL; rw [h]
theorem pl_some {l : List UInt8} {p : P3} (h : cutL l = some p) : parseL l = if 65536 < (allOf p).length ∨ (vD p).ex < -1000000 ∨ 1000000 < (vD p).ex then (31, zeroD) else (0, vD p) := by
  unfold parseL
  rw [h]
  simp only
  rw [← value_cap 99999999 (by decide) p]
  unfold valueL vD
  by_cases h1 : 65536 < (allOf p).length
  · rw [if_pos h1, if_pos (.inl h1)]
  · rw [if_neg h1]
    by_cases h2 : dgOf p = []
    · rw [if_pos h2, if_pos h2, if_neg]
      rintro (q | q | q)
      · exact h1 q
      · exact absurd q (by decide)
      · exact absurd q (by decide)
    · rw [if_neg h2, if_neg h2]
      by_cases h3 : exOf 99999999 p < -1000000 ∨ 1000000 < exOf 99999999 p
      · rw [if_pos h3, if_pos (.inr h3)]
      · rw [if_neg h3, if_neg]
        rintro (q | q)
        · exact h1 q
        · exact h3 q
theorem cap_bd (p : P3) (hd : p.exp.all isD = true) : -99999999 ≤ expOf 99999999 p ∧ expOf 99999999 p ≤ 99999999 := by
  have := num_nonneg hd
  unfold expOf
  split <;> omega

set_option maxRecDepth 100000 in
set_option maxHeartbeats 1600000 in
theorem rparse_any (s : ByteArray) (w : World) (hs : s.size ≤ 140737488355328) :
    Calls Tryz.prog 7 #[.string s] w fun r w' => r = .returned (.tuple #[d3 (parseL s.data.toList).2, .int .i64 (parseL s.data.toList).1]) ∧ Below w.heap.size w w' := by
  have h1 := fun w => rcut_any s w hs
  obtain ⟨V, hV⟩ : ∃ V : Int × D3, parseL s.data.toList = V := ⟨_, rfl⟩
  rw [hV]
  have HV : Hid (parseL s.data.toList = V) := hV
  clear hV
  go_enter Tryz.func7, Tryz.ntmps7
  go_wp2_with fail
  refine (h1 _).mono ?_
  rintro r w1 ⟨n, a, b, m, x, ok, rfl, hOK, hb1⟩
  obtain ⟨k1, z1⟩ : (∀ o, w1.cell? ⟨w.heap.size, o, none⟩ = #[Value.bool false, .string ⟨#[]⟩, .int .i64 0][o]?) ∧ w.heap.size < w1.heap.size := by
    refine ⟨fun o => ?_, ?_⟩
    · rw [hb1.cell (p := ⟨w.heap.size, o, none⟩) (by simp)]
      rw [World.cell?_alloc_at _ _ _ _ rfl]
    · have := hb1.size; simp at this; omega
  have f1 : ∀ o, w1.frozen? ⟨w.heap.size, o, none⟩ = false := fun o => by
    rw [hb1.frozen (p := ⟨w.heap.size, o, none⟩) (by simp)]
    simp [go_sem]
  rcases hOK with ⟨hn, rfl⟩ | ⟨p, hp, rfl, rfl, rfl, rfl, rfl, rfl⟩
  · have hP := HV.out
    rw [pl_none hn] at hP
    subst hP
    clear hn HV h1
    go_wp2
    refine bodyPost_ret (v := .tuple #[.agg #[.bool false, .string ⟨#[]⟩, .int .i64 0], .int .i64 30]) ?_ rfl ?_
    · simp [results, Tryz.results7, go_sem, k1, z1]
    · exact ⟨rfl, (by with_reducible repeat (first | exact Below.refl _ _ | refine bl_t ?_ hb1 | refine bl_d ?_ | refine bl_a ?_ _ | refine bl_s ?_ (by first | exact Nat.le_refl _ | omega) _))⟩
  · have hl := cut_len hp
    rw [len_of] at hl
    have hpd := cutL_pd hp
    have hall : (allOf p).length = (bs p.int).size + (bs p.frac).size := by unfold allOf; rw [List.length_append, bs_size, bs_size]
    have hall2 : (allOf p).length ≤ 140737488355328 := by rw [hall, bs_size, bs_size]; omega
    have h2 := fun w => rvalue_any p w hall2 hpd.2.2 (by unfold maxLen; omega)
    have hP := HV.out
    rw [pl_some hp, hall] at hP
    rw [hall] at hall2
    have hcd := cap_bd p hpd.2.2
    have hexb : -200000000000000 ≤ (vD p).ex ∧ (vD p).ex ≤ 200000000000000 := by
      unfold vD
      split
      · exact ⟨by decide, by decide⟩
      · show _ ≤ exOf 99999999 p ∧ exOf 99999999 p ≤ _
        unfold exOf
        have t1 : (upOf p).length ≤ (allOf p).length := trimRight_le _ _
        rw [hall] at t1
        have t2 : p.frac.length = (bs p.frac).size := (bs_size _).symm
        rw [hall]
        omega
    unfold pv d3 at h2
    have HP : Hid ((if 65536 < (bs p.int).size + (bs p.frac).size ∨ (vD p).ex < -1000000 ∨ 1000000 < (vD p).ex then (31, zeroD) else (0, vD p)) = V) := hP
    have sI : ((bs p.int).size : Int) + ((bs p.frac).size : Int) ≤ 140737488355328 := by omega
    clear hl hpd hall hall2 hP HV h1 hp hcd
    obtain ⟨D, hD⟩ : ∃ D, vD p = D := ⟨_, rfl⟩
    rw [hD] at h2 HP hexb
    clear hD
    generalize bs p.int = a at *
    generalize bs p.frac = b at *
    generalize bs p.exp = x at *
    obtain ⟨G, hG⟩ : ∃ G, bs D.dg = G := ⟨_, rfl⟩
    rw [hG] at h2
    have HG : Hid (d3 D = .agg #[.bool D.neg, .string G, .int .i64 D.ex]) := by show d3 D = _; rw [← hG]; rfl
    clear hG
    go_wp2_with fail
    refine (h2 _).mono ?_
    rintro r w2 ⟨rfl, hb2⟩
    have z2 : w.heap.size < w2.heap.size := by have := hb2.size; simp at this; omega
    have y2 : w1.heap.size < w2.heap.size := by have := hb2.size; simp at this; omega
    have k2 : ∀ o, w2.cell? ⟨w.heap.size, o, none⟩ = #[Value.bool false, .string ⟨#[]⟩, .int .i64 0][o]? := fun o => by
      rw [hb2.cell (p := ⟨w.heap.size, o, none⟩) (by simp; omega), World.cell?_alloc_lt _ _ ⟨w.heap.size, o, none⟩ z1]
      exact k1 o
    have f2 : ∀ o, w2.frozen? ⟨w.heap.size, o, none⟩ = false := fun o => by
      rw [hb2.frozen (p := ⟨w.heap.size, o, none⟩) (by simp; omega)]
      simp [go_sem, z1, f1]
    have j2 : ∀ o, w2.cell? ⟨w1.heap.size, o, none⟩ = #[Value.bool p.neg, .string a, .string b, .bool p.minus, .string x][o]? := fun o => by
      rw [hb2.cell (p := ⟨w1.heap.size, o, none⟩) (by simp)]
      rw [World.cell?_alloc_at _ _ _ _ rfl]
    clear k1 f1
    by_cases c1 : 65536 < a.size + b.size
    · have hP := HP.out
      rw [if_pos (.inl c1)] at hP
      subst hP
      have c1I : (65536 : Int) < (a.size : Int) + (b.size : Int) := by omega
      clear HP c1
      go_wp2
      refine bodyPost_ret (v := .tuple #[.agg #[.bool false, .string ⟨#[]⟩, .int .i64 0], .int .i64 31]) ?_ rfl ?_
      · simp [results, Tryz.results7, go_sem, k2, z2]
      · exact ⟨rfl, (by with_reducible repeat (first | exact Below.refl _ _ | refine bl_t ?_ hb2 | refine bl_t ?_ hb1 | refine bl_d ?_ | refine bl_a ?_ _ | refine bl_s ?_ (by first | exact Nat.le_refl _ | omega) _))⟩
    · have c1I : decide ((65536 : Int) < (a.size : Int) + (b.size : Int)) = false := decide_eq_false (by omega)
      by_cases c2 : D.ex < -1000000
      · have hP := HP.out
        rw [if_pos (.inr (.inl c2))] at hP
        subst hP
        clear HP c1
        go_wp2
        refine bodyPost_ret (v := .tuple #[.agg #[.bool false, .string ⟨#[]⟩, .int .i64 0], .int .i64 31]) ?_ rfl ?_
        · simp [results, Tryz.results7, go_sem, k2, z2]
        · exact ⟨rfl, (by with_reducible repeat (first | exact Below.refl _ _ | refine bl_t ?_ hb2 | refine bl_t ?_ hb1 | refine bl_d ?_ | refine bl_a ?_ _ | refine bl_s ?_ (by first | exact Nat.le_refl _ | omega) _))⟩
      · by_cases c3 : 1000000 < D.ex
        · have hP := HP.out
          rw [if_pos (.inr (.inr c3))] at hP
          subst hP
          clear HP c1
          go_wp2
          refine bodyPost_ret (v := .tuple #[.agg #[.bool false, .string ⟨#[]⟩, .int .i64 0], .int .i64 31]) ?_ rfl ?_
          · simp [results, Tryz.results7, go_sem, k2, z2]
          · exact ⟨rfl, (by with_reducible repeat (first | exact Below.refl _ _ | refine bl_t ?_ hb2 | refine bl_t ?_ hb1 | refine bl_d ?_ | refine bl_a ?_ _ | refine bl_s ?_ (by first | exact Nat.le_refl _ | omega) _))⟩
        · have hP := HP.out
          rw [if_neg (by rintro (q | q | q); exact c1 q; exact c2 q; exact c3 q)] at hP
          subst hP
          clear HP c1
          go_wp2
          refine bodyPost_ret (v := .tuple #[.agg #[.bool D.neg, .string G, .int .i64 D.ex], .int .i64 0]) ?_ rfl ?_
          · simp [results, Tryz.results7, go_sem, k2, z2]
          · exact ⟨(by show _ = Ending.returned (.tuple #[d3 D, .int .i64 0]); rw [HG.out]), (by with_reducible repeat (first | exact Below.refl _ _ | refine bl_t ?_ hb2 | refine bl_t ?_ hb1 | refine bl_d ?_ | refine bl_a ?_ _ | refine bl_s ?_ (by first | exact Nat.le_refl _ | omega) _))⟩
end Go.Proofs.YtfhapeinfhjihaaGreatDoor
