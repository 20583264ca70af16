/-
  What uri.Dots answers. Conditions: at most 2^46 bytes.
-/
import Derived.Test.YtgmigdfkdioalaaUU4
namespace Go.Proofs.Ytgmigdfkdioalaa
open Go.RowKit
attribute [local go_sem] setCell_drewN alloc_drewN

/-- All steps, with what was put out so far. -/
def dotsF : Nat → List UInt8 → List UInt8 → List UInt8
  | 0, _, o => o
  | n + 1, r, o => if r = [] then o else dotsF n (stepL r).2.2 ((if (stepL r).1 then upL o else o) ++ (stepL r).2.1)
def dotsL (p : List UInt8) : List UInt8 := dotsF p.length p []
theorem upL_len (o : List UInt8) : (upL o).length ≤ o.length := by unfold upL; rw [List.length_take]; omega
theorem step_len {r : List UInt8} (h : r ≠ []) : (stepL r).2.2.length < r.length ∧ (stepL r).2.1.length + (stepL r).2.2.length ≤ r.length := by
  have hr : 0 < r.length := List.length_pos_iff.2 h
  unfold stepL
  split
  · exact ⟨hr, by simp⟩
  split
  · simp only [List.length_drop, List.length_nil]; omega
  split
  · simp only [List.length_drop, List.length_nil]; omega
  split
  · rename_i h1; rw [beq_iff_eq] at h1; subst h1; simp
  split
  · simp only [List.length_drop, List.length_nil]; omega
  split
  · rename_i h1; rw [beq_iff_eq] at h1; subst h1; simp
  split
  · simp only [List.length_drop, List.length_nil]; omega
  · simp only [List.length_drop, List.length_take]; omega
theorem dotsF_more : ∀ (n m : Nat) (r o : List UInt8), r.length ≤ n → r.length ≤ m → dotsF n r o = dotsF m r o
  | 0, m, r, o, hn, _ => by
    have : r = [] := List.length_eq_zero_iff.1 (by omega)
    subst this
    cases m <;> simp [dotsF]
  | n + 1, 0, r, o, _, hm => by
    have : r = [] := List.length_eq_zero_iff.1 (by omega)
    subst this
    simp [dotsF]
  | n + 1, m + 1, r, o, hn, hm => by
    simp only [dotsF]
    by_cases h : r = []
    · rw [if_pos h, if_pos h]
    · rw [if_neg h, if_neg h]
      have := step_len h
      exact dotsF_more n m _ _ (by omega) (by omega)
theorem dotsF_nil (o : List UInt8) (n : Nat) : dotsF n [] o = o := by cases n <;> simp [dotsF]
theorem dotsF_step {r : List UInt8} (h : r ≠ []) (o : List UInt8) : dotsF r.length r o = dotsF (stepL r).2.2.length (stepL r).2.2 ((if (stepL r).1 then upL o else o) ++ (stepL r).2.1) := by
  have h1 := step_len h
  obtain ⟨n, hn⟩ : ∃ n, r.length = n + 1 := ⟨r.length - 1, by omega⟩
  rw [hn]
  simp only [dotsF]
  rw [if_neg h]
  exact dotsF_more _ _ _ _ (by omega) (Nat.le_refl _)
theorem make_bytes (w : World) (c : Nat) (hc : c ≤ 140737488355328) : (Instr.makeSlice 49 (.int .i64 0) (.int .i64 (c : Int))).run Try.prog w = .ok (.slice (some ⟨w.heap.size, 0, none⟩) 0 c) (w.alloc (.cells (madeCells #[.int .u8 0] c) 5)) := by
  obtain ⟨i0, hi, hz0, hz1, hz2⟩ := info_parts infoY
  have := run_make (P := Try.prog) w 49 5 i0 (.int .u8 0) Try.underlying49 hi hz0 .i64 .i64 0 (c : Int) (by omega) (by omega) (by rw [hz2]; omega) (by omega)
  rw [hz1] at this
  simpa [Value.cells] using this
theorem make_out (w : World) (c : Nat) (hc : c ≤ maxLen) : OutY (w.alloc (.cells (madeCells #[.int .u8 0] c) 5)) w.heap.size (.slice (some ⟨w.heap.size, 0, none⟩) 0 c) [] :=
  ⟨_, _, rfl, World.ownsRow_made w _ c (Nat.le_refl _) hc (by have := size_madeCells #[Value.int .u8 0] (c * 1); simpa using this)⟩
theorem strCells_bs (l : List UInt8) : Lib.strCells (bs l) = bcs l := rfl
/-- 'append(x, s...)', x of the call's own, s a text, behind a struct that was made last. -/
theorem wpList_append_out {w : World} {cs : Array Value} {T : TypeId} {ops : Array Oper} {rest : List Oper} {o : Oper} {a : Act} {Q : Exit → Act → World → Prop} (hgd : o.guard = none) (s x : Operand)
    (ho : o.op = .call { callee := .builtin .append, args := #[s, x], argTypes := #[49, 9] }) (base : Nat) (v : Value) (xs : List UInt8) (hs : a.eval s = v) (hown : OutY w base v xs)
    (t : List UInt8) (hx : a.eval x = .string (bs t)) (hb : xs.length + t.length ≤ 140737488355328) (hbase : base ≤ w.heap.size)
    (h : ∀ v' w', OutY w' base v' (xs ++ t) → Below base w w' → (∀ k, w'.cell? ⟨w.heap.size, k, none⟩ = cs[k]?) → wpList Try.prog ops Q rest (a.put o.dst v') w') : wpList Try.prog ops Q (o :: rest) a (w.alloc (.cells cs T)) := by
  obtain ⟨i0, hi, hz0, hz1, hz2⟩ := info_parts infoY
  obtain ⟨g, cap, hv, hown⟩ := hown
  refine Lib.wpList_append_own_string _ hgd s x 49 9 ho base 5 i0 Try.underlying49 Try.underlying9 hi hz0 hz1 hz2 v xs.length (bcs xs) hs (hown.alloc _) (bs t) hx (by rw [bs_size]; unfold maxLen; omega) (by rw [bs_size]; omega) (by simp; omega) ?_
  intro v' w' h1 h2 h3
  rw [bs_size, strCells_bs, ← bcs_append] at h1
  have hg : g < w.heap.size := by
    rcases hown.2 with ⟨hn, _⟩ | ⟨g', cap', cur, hv', _, hgg, _⟩
    · rw [hv] at hn; cases hn
    · rw [hv] at hv'
      injection hv' with e1
      injection e1 with e1
      injection e1 with e1
      subst e1
      exact (Array.getElem?_eq_some_iff.1 hgg).1
  refine h v' w' ?_ ?_ ?_
  · rcases h1.2 with ⟨hn, _⟩ | ⟨g', cap', cur, hv', _⟩
    · exact absurd (h3.1 hn).1 (by rw [hv]; simp)
    · refine ⟨g', cap', by rw [hv', List.length_append], ?_⟩
      rw [List.length_append]; exact h1
  · exact ((Below.refl _ _).alloc hbase _).grown h2 (by simp; omega) (fun j hj => (World.ownsRow.lt hown j hj).1)
  · intro k
    have e : w'.heap[w.heap.size]? = (w.alloc (.cells cs T)).heap[w.heap.size]? := h2.block _ (by simp) (by rw [hv]; intro e; injection e with e; simp at e; omega)
    rw [World.cell?_of_block (w := w.alloc (.cells cs T)) (a := ⟨w.heap.size, k, none⟩) e]
    simp [go_sem]
theorem conv_out {w : World} {B : Nat} {v : Value} {o : List UInt8} (h : OutY w B v o) : (convert 49 9 v).run Try.prog w = .ok (.string (bs o)) w := by
  obtain ⟨g, cap, rfl, h⟩ := h
  exact run_convert_bytes_back (P := Try.prog) w 49 9 5 ⟨g, 0, none⟩ cap o Try.underlying49 Try.underlying5 Try.underlying9 (fun j hj => World.ownsRow.cells h (g := g) rfl j _ (by simp [bcs, hj]))

set_option maxRecDepth 100000 in
set_option maxHeartbeats 1600000 in
theorem dots_any (s : ByteArray) (w : World) (hs : s.size ≤ 140737488355328) :
    Calls Try.prog 20 #[.string s] w fun e w' => e = .returned (.string (bs (dotsL s.data.toList))) ∧ Below w.heap.size w w' := by
  have hl := len_of s
  have hmk := fun w' => make_bytes w' s.size hs
  have hmo := make_out w s.size (by unfold maxLen; omega)
  go_enter Try.func20, Try.ntmps20
  go_wp2_with fail
  clear hmk
  go_loopw [3, 4] (fun v t wr => ∃ (r o : List UInt8), t = .string (bs r) ∧ OutY wr w.heap.size v o ∧ o.length + r.length ≤ s.size ∧ Hid (dotsL s.data.toList = dotsF r.length r o) ∧ Below w.heap.size w wr) (fun _ t _ => match t with | .string b => b.size | _ => 0)
  case atStart => exact ⟨s.data.toList, [], rfl, hmo, by rw [hl]; simp, rfl, bl_a (Below.refl _ _) _⟩
  case round =>
    obtain ⟨r, o, rfl, hO, hle, HD, hbel⟩ := hrel
    by_cases hr : r = []
    · subst hr
      have HE : Hid (dotsL s.data.toList = o) := by show _ = _; rw [HD.out, dotsF_nil]
      have hn : (bs []).toList = [] := bs_toList []
      have hcv := conv_out hO
      clear HD hle
      go_wp2
      go_ret
      exact ⟨r_str HE.out.symm, hbel⟩
    · have hn : (bs r).toList.isEmpty = false := by rw [bs_toList]; cases r with
        | nil => exact absurd rfl hr
        | cons _ _ => rfl
      have h1 := firstStep_any (bs r) wr (by rw [bs_size]; exact List.length_pos_iff.2 hr) (by rw [bs_size]; omega)
      rw [bs_list] at h1
      have hsl := step_len hr
      have HS := dotsF_step hr o
      obtain ⟨⟨u, ot, rs⟩, hst⟩ : ∃ x, x = stepL r := ⟨_, rfl⟩
      rw [← hst] at h1 hsl HS
      simp only [stepV] at h1 hsl HS
      have hm : (bs rs).size < (bs r).size := by rw [bs_size, bs_size]; exact hsl.1
      clear hst hr
      cases u
      · simp only [Bool.false_eq_true, if_false] at HS
        have HN : Hid (dotsL s.data.toList = dotsF rs.length rs (o ++ ot)) := by show _ = _; rw [HD.out, HS]
        have hlen : (o ++ ot).length + rs.length ≤ s.size := by rw [List.length_append]; omega
        have hap : o.length + ot.length ≤ 140737488355328 := by omega
        clear HD HS hsl hle
        go_wp2_with first | (go_at_call 36; refine h1.mono ?_; rintro e w1 ⟨rfl, hb1⟩) | (at_builtin; refine wpList_append_out rfl (.tmp 18) (.tmp 20) rfl w.heap.size _ o rfl (hO.below (by assumption)) ot rfl hap (Nat.le_trans hbel.size (Below.size (by assumption))) ?_)
        intro v3 w3 hO3 hb3 hc3
        have hbel3 : Below w.heap.size w w3 := (bl_t hbel hb1).trans hb3
        have c2 : w3.cell? ⟨w1.heap.size, 2, none⟩ = some (.string (bs rs)) := hc3 2
        clear h1 hO hb3 hc3 hb1 hbel
        go_wp2
        go_roundw
        case rel => exact ⟨rs, o ++ ot, rfl, hO3, hlen, HN, hbel3⟩
        case measure => exact hm
      · simp only [if_true] at HS
        have HN : Hid (dotsL s.data.toList = dotsF rs.length rs (upL o ++ ot)) := by show _ = _; rw [HD.out, HS]
        have hul := upL_len o
        have hlen : (upL o ++ ot).length + rs.length ≤ s.size := by rw [List.length_append]; omega
        have hap : (upL o).length + ot.length ≤ 140737488355328 := by omega
        have h2 := fun w' (hb : Below wr.heap.size wr w') => withoutLast_any u3 w.heap.size o w' (hO.below hb) (by omega)
        clear HD HS hsl hle hul
        go_wp2_with first | (go_at_call 36; refine h1.mono ?_; rintro e w1 ⟨rfl, hb1⟩) | (go_at_call 37; refine (h2 _ (bl_a (by assumption) _)).mono ?_; rintro e w2 ⟨v2, rfl, hO2, rfl⟩) | (at_builtin; refine wpList_append_out rfl (.tmp 18) (.tmp 20) rfl w.heap.size _ (upL o) rfl (hO2 _ (hO.below (by assumption))) ot rfl hap (Nat.le_trans hbel.size (Below.size (by assumption))) ?_)
        intro v3 w3 hO3 hb3 hc3
        have hbel3 : Below w.heap.size w w3 := (bl_t hbel hb1).trans hb3
        have c2 : w3.cell? ⟨w1.heap.size, 2, none⟩ = some (.string (bs rs)) := hc3 2
        clear h1 hO hb3 hc3 hb1 hbel h2
        go_wp2
        go_roundw
        case rel => exact ⟨rs, upL o ++ ot, rfl, hO3, hlen, HN, hbel3⟩
        case measure => exact hm
end Go.Proofs.Ytgmigdfkdioalaa
