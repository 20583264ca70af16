/-
  What (parts).number and dec.read answer: the number of a text's parts, or which error. Conditions: the parts are digits; the sentinel lies in its variable.
-/
import Derived.Test.YtfhapeinfhjihaaGreatDoorS7
namespace Go.Proofs.YtfhapeinfhjihaaGreatDoor
open Go.RowKit
attribute [local go_sem] setCell_drewN alloc_drewN

theorem trimR (s : ByteArray) (w : World) (hs : s.size ≤ 9223372036854775807) :
    Calls Tryz.prog 77 #[.string s, .string ⟨#[48]⟩] w fun e w' => e = .returned (.string (bs (Lib.trimRightB s.data.toList 48))) ∧ w = w' := by
  refine (Tryz.strings_TrimRight_one s 48 (by decide) w hs).mono ?_
  rintro e w' ⟨rfl, rfl⟩
  exact ⟨rfl, rfl⟩
theorem trimL (s : ByteArray) (w : World) :
    Calls Tryz.prog 78 #[.string s, .string ⟨#[48]⟩] w fun e w' => e = .returned (.string (bs (Lib.trimLeftB s.data.toList 48))) ∧ w = w' := by
  refine (Tryz.strings_TrimLeft_one s 48 (by decide) w).mono ?_
  rintro e w' ⟨rfl, rfl⟩
  exact ⟨rfl, rfl⟩
theorem bs_append (a b : List UInt8) : bs a ++ bs b = bs (a ++ b) := by
  have h : (bs a ++ bs b).data = (bs (a ++ b)).data := by rw [ByteArray.data_append]; show a.toArray ++ b.toArray = (a ++ b).toArray; simp
  cases h1 : bs a ++ bs b
  cases h2 : bs (a ++ b)
  rw [h1, h2] at h
  simp only at h
  rw [h]
set_option maxHeartbeats 400000 in
theorem clone_any (s : ByteArray) (w : World) (hs : s.size ≤ 281474976710656) :
    Calls Tryz.prog 80 #[.string s] w fun e w' => e = .returned (.string s) ∧ Below w.heap.size w w' := by
  go_enter Tryz.func80, Tryz.ntmps80
  go_wp2_with (go_at_call 102; refine (Tryz.stringslite_Clone s _ hs).mono ?_; rintro e w' ⟨rfl, hb⟩)
  go_ret
  exact ⟨rfl, hb⟩
theorem toList_bs (l : List UInt8) : (bs l).toList = l := by rw [ByteArray.toList_eq]; rfl
theorem bcell {W w1 : World} (hb : Below W.heap.size W w1) : (∀ b o, b < W.heap.size → w1.cell? ⟨b, o, none⟩ = W.cell? ⟨b, o, none⟩) ∧ (∀ b o, b < W.heap.size → w1.frozen? ⟨b, o, none⟩ = W.frozen? ⟨b, o, none⟩) :=
  ⟨fun b o h => hb.cell (p := ⟨b, o, none⟩) h, fun b o h => hb.frozen (p := ⟨b, o, none⟩) h⟩
def zv : Value := .agg #[.bool false, .string ⟨#[]⟩, .int .i64 0]
def d3 (d : D3) : Value := .agg #[.bool d.neg, .string (bs d.dg), .int .i64 d.ex]

set_option maxRecDepth 100000 in
set_option maxHeartbeats 800000 in
theorem number_long (p : P3) (gv : Value) (w : World) (h0 : 0 < w.heap.size) (hg : w.cell? ⟨0, 0, none⟩ = some gv) (hs : p.int.length + p.frac.length ≤ maxLen) (h : 65536 < (allOf p).length) :
    Calls Tryz.prog 50 #[pv p] w fun e w' => e = .returned (.tuple #[zv, gv]) ∧ Below w.heap.size w w' := by
  have hl : (65536 : Int) < ((bs p.int).size : Int) + ((bs p.frac).size : Int) := by unfold allOf at h; rw [List.length_append] at h; rw [bs_size, bs_size]; omega
  have hm : ((bs p.int).size : Int) + ((bs p.frac).size : Int) ≤ 9223372036854775807 := by unfold maxLen at hs; rw [bs_size, bs_size]; omega
  clear h hs
  unfold pv
  generalize bs p.int = a at *
  generalize bs p.frac = b at *
  generalize bs p.exp = x at *
  go_enter Tryz.func50, Tryz.ntmps50
  go_wp2_with fail
  go_region
  all_goals (try go_wp2)
  all_goals (refine bodyPost_ret (v := .tuple #[.agg #[.bool false, .string ⟨#[]⟩, .int .i64 0], gv]) ?_ rfl ?_)
  all_goals first | (exact ⟨rfl, (by with_reducible repeat (first | exact Below.refl _ _ | refine bl_d ?_ | refine bl_n ?_ _ | refine bl_a ?_ _ | refine bl_s ?_ (by omega) _))⟩) | (simp [results, Tryz.results50, go_sem])

set_option maxRecDepth 100000 in
set_option maxHeartbeats 800000 in
theorem number_zero (p : P3) (w : World) (h : (allOf p).length ≤ 65536) (hz : dgOf p = []) :
    Calls Tryz.prog 50 #[pv p] w fun e w' => e = .returned (.tuple #[zv, .nilIface]) ∧ Below w.heap.size w w' := by
  have hl : ¬ (65536 : Int) < ((bs p.int).size : Int) + ((bs p.frac).size : Int) := by unfold allOf at h; rw [List.length_append] at h; rw [bs_size, bs_size]; omega
  have h1 := fun w => trimR (bs (allOf p)) w (by rw [bs_size]; omega)
  have h2 := fun w => trimL (bs (upOf p)) w
  rw [bs_list] at h1 h2
  rw [show Lib.trimRightB (allOf p) 48 = upOf p from rfl] at h1
  rw [show Lib.trimLeftB (upOf p) 48 = [] from hz] at h2
  have ha : bs p.int ++ bs p.frac = bs (allOf p) := bs_append _ _
  have he : (bs []).toList = [] := toList_bs []
  clear h hz
  unfold pv
  generalize bs (upOf p) = U at *
  generalize bs (allOf p) = A at *
  generalize bs p.int = a at *
  generalize bs p.frac = b at *
  generalize bs p.exp = x at *
  go_enter Tryz.func50, Tryz.ntmps50
  go_wp2_with (first | (go_at_call 77; refine (h1 _).mono ?_; rintro e w' ⟨rfl, rfl⟩) | (go_at_call 78; refine (h2 _).mono ?_; rintro e w' ⟨rfl, rfl⟩) | (go_at_call 32; refine (nought_any _).mono ?_; rintro r w' ⟨rfl, rfl⟩))
  refine bodyPost_ret (v := .tuple #[.agg #[.bool false, .string ⟨#[]⟩, .int .i64 0], .nilIface]) ?_ rfl ?_
  · simp [results, Tryz.results50, go_sem]
  · exact ⟨rfl, (by with_reducible repeat (first | exact Below.refl _ _ | refine bl_d ?_ | refine bl_n ?_ _ | refine bl_a ?_ _ | refine bl_s ?_ (by omega) _))⟩

/-- What the walks below want of the parts. -/
theorem expOf_bd (p : P3) (hd : p.exp.all isD = true) : -1131072 ≤ expOf 1131072 p ∧ expOf 1131072 p ≤ 1131072 := by
  have := num_nonneg hd
  unfold expOf
  split <;> omega
theorem capN_all (p : P3) : (if p.minus = true then -(capN 1131072 (bs p.exp) (bs p.exp).size) else capN 1131072 (bs p.exp) (bs p.exp).size) = expOf 1131072 p := by
  unfold expOf capN
  rw [bs_list, bs_size, List.take_length]

end Go.Proofs.YtfhapeinfhjihaaGreatDoor
