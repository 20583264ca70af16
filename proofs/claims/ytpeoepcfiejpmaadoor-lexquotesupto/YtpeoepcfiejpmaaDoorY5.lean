/-
  What ref4.Quote answers: the string as it is written. Conditions: the text is at most 2^40 bytes long.
-/
import Derived.Test.YtpeoepcfiejpmaaDoorZ4
import Derived.Test.YtpeoepcfiejpmaaDoorUC3
import Derived.Deep.RegionHeld3
namespace Go.Proofs.YtpeoepcfiejpmaaDoor
open Go.RowKit
attribute [local go_sem] setCell_drewN alloc_drewN

/-- Which of the short escapes it is; 7: none. -/
def idxC (c : Int) : Nat := if c = 34 then 0 else if c = 92 then 1 else if c = 8 then 2 else if c = 12 then 3 else if c = 10 then 4 else if c = 13 then 5 else if c = 9 then 6 else 7
def toV (j : Nat) : UInt8 := [34, 92, 98, 102, 110, 114, 116].getD j 0
def outK (c : Int) (k : Nat) (out : List UInt8) : List UInt8 := if idxC c < k then out ++ [92, toV (idxC c)] else out
theorem idxC_le (c : Int) : idxC c ≤ 7 := by
  unfold idxC
  repeat' split
  all_goals omega
theorem outK_next {c : Int} {k : Nat} {out : List UInt8} (h : idxC c ≠ k) : outK c (k + 1) out = outK c k out ∧ decide (idxC c < k + 1) = decide (idxC c < k) := by
  unfold outK
  by_cases g : idxC c < k
  · rw [if_pos g, if_pos (by omega), decide_eq_true g, decide_eq_true (by omega)]; exact ⟨rfl, rfl⟩
  · rw [if_neg g, if_neg (by omega), decide_eq_false g, decide_eq_false (by omega)]; exact ⟨rfl, rfl⟩
theorem outK_hit {c : Int} {k : Nat} {out : List UInt8} (h : idxC c = k) : outK c k out = out ∧ decide (idxC c < k) = false ∧ outK c (k + 1) out = out ++ [92, toV k] ∧ decide (idxC c < k + 1) = true := by
  unfold outK
  rw [if_neg (by omega), if_pos (by omega), decide_eq_false (by omega), decide_eq_true (by omega), h]
  exact ⟨rfl, rfl, rfl, rfl⟩
theorem idx0 {c : Int} (h : c ≠ 34) : idxC c ≠ 0 := by
  unfold idxC
  repeat' split
  all_goals omega
theorem idx1 {c : Int} (h : c ≠ 92) : idxC c ≠ 1 := by
  unfold idxC
  repeat' split
  all_goals omega
theorem idx2 {c : Int} (h : c ≠ 8) : idxC c ≠ 2 := by
  unfold idxC
  repeat' split
  all_goals omega
theorem idx3 {c : Int} (h : c ≠ 12) : idxC c ≠ 3 := by
  unfold idxC
  repeat' split
  all_goals omega
theorem idx4 {c : Int} (h : c ≠ 10) : idxC c ≠ 4 := by
  unfold idxC
  repeat' split
  all_goals omega
theorem idx5 {c : Int} (h : c ≠ 13) : idxC c ≠ 5 := by
  unfold idxC
  repeat' split
  all_goals omega
theorem idx6 {c : Int} (h : c ≠ 9) : idxC c ≠ 6 := by
  unfold idxC
  repeat' split
  all_goals omega
/-- 'append(x, y...)' at a step of a region whose order is open. -/
theorem step_append_row {w : World} {ops : Array Oper} {o : Oper} {a : Act} {K : Act → World → Prop} {Q : Exit → Act → World → Prop} {E : Prop} (hgd : o.guard = none) (s x : Operand)
    (ho : o.op = .call { callee := .builtin .append, args := #[s, x], argTypes := #[22, 22] }) (base : Nat) (v : Value) (n : Nat) (xs : List Value) (hs : a.eval s = v) (hown : w.ownsRow base 5 1 v n xs)
    (ad : Addr) (m c : Nat) (g : Nat → Int) (hx : a.eval x = .slice (some ad) m c) (hR : Row w (.slice (some ad) m c) m g) (hb : n + m ≤ 140737488355328) (hbase : base ≤ w.heap.size)
    (h : ∀ v' w', w'.ownsRow base 5 1 v' (n + m) (xs ++ vals m g) → w.grownBy w' v.ownBlock → K (a.put o.dst v') w') : if Region.wanted o (yielded ops a.tmps) = true then Oper.wp Tryd.prog o a w K Q else E := by
  have hw : Region.wanted o (yielded ops a.tmps) = true := by simp [Region.wanted, hgd]
  rw [if_pos hw]
  obtain ⟨i0, hi, hz0, hz1, hz2⟩ := info_parts info5
  rcases hR with ⟨rfl, ad', cap', e, hz⟩ | ⟨b, off, cap', e, hc, hm, hL⟩
  · refine wp_append_own w s x 22 ho base 5 i0 (.int .u8 0) 1 1 Tryd.underlying22 hi hz0 hz1 hz2 rfl (by decide) v n xs hs hown ad 0 c [] hx rfl (fun j u hj => by simp at hj) (fun u hu => by simp at hu) (by unfold maxLen; omega) (by omega) hbase ?_
    intro v' w' h1 h2 _
    exact h v' w' (by simpa [vals] using h1) h2
  · injection e with e1 _ e3
    injection e1 with e1
    subst e1 e3
    refine wp_append_own w s x 22 ho base 5 i0 (.int .u8 0) 1 1 Tryd.underlying22 hi hz0 hz1 hz2 rfl (by decide) v n xs hs hown ⟨b, off, none⟩ m c (vals m g) hx (by rw [vals_length]; omega) (fun j u hj => ?_) (fun u hu => ?_) (by unfold maxLen; omega) (by omega) hbase ?_
    · have hlt : j < m := by have := (List.getElem?_eq_some_iff.1 hj).1; rwa [vals_length] at this
      rw [vals_at _ _ _ hlt] at hj
      rw [add_at, hL.cell j hlt, hj]
    · simp only [vals, List.mem_map] at hu
      obtain ⟨i, _, rfl⟩ := hu
      rfl
    · intro v' w' h1 h2 _
      exact h v' w' h1 h2
theorem of_toNat {c : UInt8} {k : Nat} (_ : k < 256) (h : (c.toNat : Int) = k) : c = UInt8.ofNat k := by
  have e : c.toNat = k := by omega
  rw [← e, UInt8.ofNat_toNat]
theorem idx_cases {c : Int} (h : idxC c < 7) : c = 34 ∨ c = 92 ∨ c = 8 ∨ c = 12 ∨ c = 10 ∨ c = 13 ∨ c = 9 := by
  unfold idxC at h
  repeat' split at h
  all_goals omega
theorem idx_none {c : Int} (h : ¬ idxC c < 7) : c ≠ 34 ∧ c ≠ 92 ∧ c ≠ 8 ∧ c ≠ 12 ∧ c ≠ 10 ∧ c ≠ 13 ∧ c ≠ 9 := by
  unfold idxC at h
  repeat' split at h
  all_goals omega
theorem spec_esc {c : UInt8} (h : idxC (c.toNat : Int) < 7) : (if plainB (c.toNat : Int) = true then [c] else escOne c) = [92, toV (idxC (c.toNat : Int))] := by
  rcases idx_cases h with e | e | e | e | e | e | e
  · rw [of_toNat (k := 34) (by decide) e]; rfl
  · rw [of_toNat (k := 92) (by decide) e]; rfl
  · rw [of_toNat (k := 8) (by decide) e]; rfl
  · rw [of_toNat (k := 12) (by decide) e]; rfl
  · rw [of_toNat (k := 10) (by decide) e]; rfl
  · rw [of_toNat (k := 13) (by decide) e]; rfl
  · rw [of_toNat (k := 9) (by decide) e]; rfl
theorem spec_plain {c : UInt8} (h : ¬ idxC (c.toNat : Int) < 7) (h2 : ¬ (c.toNat : Int) < 32) : (if plainB (c.toNat : Int) = true then [c] else escOne c) = [c] := by
  obtain ⟨a, b, _⟩ := idx_none h
  rw [if_pos]
  simp [plainB]
  omega
theorem dget (z : Int) (n : Nat) (hz : z = n) (hn : n < 16) (h : z.toNat < (⟨#[48, 49, 50, 51, 52, 53, 54, 55, 56, 57, 97, 98, 99, 100, 101, 102]⟩ : ByteArray).size) : (⟨#[48, 49, 50, 51, 52, 53, 54, 55, 56, 57, 97, 98, 99, 100, 101, 102]⟩ : ByteArray)[z.toNat]'h = hexC n := by
  subst hz
  have e : n = 0 ∨ n = 1 ∨ n = 2 ∨ n = 3 ∨ n = 4 ∨ n = 5 ∨ n = 6 ∨ n = 7 ∨ n = 8 ∨ n = 9 ∨ n = 10 ∨ n = 11 ∨ n = 12 ∨ n = 13 ∨ n = 14 ∨ n = 15 := by omega
  rcases e with rfl | rfl | rfl | rfl | rfl | rfl | rfl | rfl | rfl | rfl | rfl | rfl | rfl | rfl | rfl | rfl <;> rfl
theorem spec_low {c : UInt8} (h : ¬ idxC (c.toNat : Int) < 7) (h2 : (c.toNat : Int) < 32) : (if plainB (c.toNat : Int) = true then [c] else escOne c) = [92, 117, 48, 48, hexC (c.toNat / 16), hexC (c.toNat % 16)] := by
  obtain ⟨a1, a2, a3, a4, a5, a6, a7⟩ := idx_none h
  have hp : plainB (c.toNat : Int) = false := by
    unfold plainB
    rw [decide_eq_false (by omega)]; rfl
  have ne : ∀ k : Nat, k < 256 → (c.toNat : Int) ≠ k → c ≠ UInt8.ofNat k := fun k hk h e => h (by rw [e]; simp; omega)
  rw [hp]
  simp only [Bool.false_eq_true, if_false]
  unfold escOne
  rw [if_neg (show c ≠ 34 from ne 34 (by decide) a1), if_neg (show c ≠ 92 from ne 92 (by decide) a2), if_neg (show c ≠ 8 from ne 8 (by decide) a3), if_neg (show c ≠ 12 from ne 12 (by decide) a4), if_neg (show c ≠ 10 from ne 10 (by decide) a5), if_neg (show c ≠ 13 from ne 13 (by decide) a6), if_neg (show c ≠ 9 from ne 9 (by decide) a7)]
theorem rgood_str (s : ByteArray) (w : World) (hs : s.size ≤ maxLen) :
    Calls Tryd.prog 25 #[.slice (some ⟨w.heap.size, 0, none⟩) s.size (grownCap w s.size 0 5)] (Lib.bytesWorld w 5 s) fun e w' => e = .returned (.tuple #[.int .i64 ((goodL s.data.toList).1 : Nat), .bool (goodL s.data.toList).2]) ∧ w' = Lib.bytesWorld w 5 s :=
  (rgood_any _ _ _ (Lib.bytesWorld w 5 s) (byt_str w s hs)).mono fun _ _ h => ⟨h.1, h.2.symm⟩
theorem rblank_any (c : Int) (w : World) : Calls Tryd.prog 15 #[.int .u8 c] w fun r w' => r = .returned (.bool (blankB c)) ∧ w' = w := by
  by_cases h1 : c = 9
  · subst h1
    go_enter Tryd.func15, Tryd.ntmps15
    go_wp2
    go_ret
    exact ⟨rfl, rfl⟩
  · by_cases h2 : c = 10
    · subst h2
      go_enter Tryd.func15, Tryd.ntmps15
      go_wp2
      go_ret
      exact ⟨rfl, rfl⟩
    · by_cases h3 : c = 13
      · subst h3
        go_enter Tryd.func15, Tryd.ntmps15
        go_wp2
        go_ret
        exact ⟨rfl, rfl⟩
      · have e1 : (c == 9) = false := beq_eq_false_iff_ne.2 h1
        have e2 : (c == 10) = false := beq_eq_false_iff_ne.2 h2
        have e3 : (c == 13) = false := beq_eq_false_iff_ne.2 h3
        have HR : Hid (blankB c = (c == 32)) := by show _ = _; unfold blankB; rw [e1, e2, e3]; simp
        clear h1 h2 h3
        go_enter Tryd.func15, Tryd.ntmps15
        go_wp2
        go_ret
        exact ⟨r_bool HR.out.symm, rfl⟩

set_option maxRecDepth 100000 in
set_option maxHeartbeats 12800000 in
theorem rquote_any (s : ByteArray) (w : World) (hs : s.size ≤ 1099511627776) :
    Calls Tryd.prog 13 #[.string s] w fun r w' => r = .returned (.tuple #[.string ⟨(if (goodL s.data.toList).2 = true then quoteL s.data.toList else []).toArray⟩, .int .i64 (if (goodL s.data.toList).2 = true then 0 else 10)]) ∧ Below w.heap.size w w' := by
  have cv := conv_str w s
  have hsm : s.size ≤ maxLen := by unfold maxLen; omega
  have g1 := rgood_str s w hsm
  have hb := bl_bytes w s
  have hlen : s.data.toList.length = s.size := Array.length_toList
  cases hg : (goodL s.data.toList).2
  · rw [hg] at g1
    simp only [Bool.false_eq_true, if_false]
    generalize (goodL s.data.toList).1 = n at *
    clear hg hlen hsm hs
    go_enter Tryd.func13, Tryd.ntmps13
    go_wp2_with (go_at_call 25; refine g1.mono ?_; rintro r w2 ⟨rfl, rfl⟩)
    go_ret2
    exact ⟨rfl, hb⟩
  · rw [hg] at g1
    simp only [if_true]
    generalize (goodL s.data.toList).1 = n at *
    have hsI : (s.size : Int) ≤ 1099511627776 := by omega
    go_enter Tryd.func13, Tryd.ntmps13
    go_wp2_with fail
    refine g1.mono ?_
    rintro r w2 ⟨rfl, rfl⟩
    have hbq := hb
    generalize Lib.bytesWorld w 5 s = W at *
    have hbW := bl_a hbq (.cells #[.int .u8 34] 5)
    have hzW := hbq.size
    have own0 : (W.alloc (.cells #[.int .u8 34] 5)).ownsRow w.heap.size 5 1 (.slice (some ⟨W.heap.size, 0, none⟩) 1 1) (34 :: bodyL (s.data.toList.take 0)).length (cellsL (34 :: bodyL (s.data.toList.take 0))) := World.ownsRow_lit W #[.int .u8 34] 1 hzW (by unfold maxLen; omega) rfl
    clear cv g1 hg hsm
    go_wp2_with fail
    go_loopw [9, 10] (fun u t wr => ∃ i : Nat, t = .int .i64 (i : Int) ∧ i ≤ s.size ∧ wr.ownsRow w.heap.size 5 1 u (34 :: bodyL (s.data.toList.take i)).length (cellsL (34 :: bodyL (s.data.toList.take i))) ∧ Below w.heap.size w wr) (fun _ t _ => s.size - (intOf t).toNat)
    case atStart => exact ⟨0, rfl, Nat.zero_le _, own0, hbW⟩
    case round =>
      obtain ⟨i, rfl, his, hown, hbel⟩ := hrel
      by_cases hlt : i < s.size
      · have hiI : (i : Int) < (s.size : Int) := by omega
        have hil : i < s.data.toList.length := by rw [hlen]; exact hlt
        have hx := cx_at s i hlt
        obtain ⟨c, hc⟩ : ∃ c, s.data.toList[i] = c := ⟨_, rfl⟩
        have hcc : cx s i = (c.toNat : Int) := by rw [← hx, ← hc]; rfl
        have HN : Hid (34 :: bodyL (s.data.toList.take (i + 1)) = 34 :: bodyL (s.data.toList.take i) ++ (if plainB (c.toNat : Int) = true then [c] else escOne c)) := by
          show _ = _
          rw [List.take_succ_eq_append_getElem hil, body_append, hc]
          simp [bodyL]
        have hol : (34 :: bodyL (s.data.toList.take i)).length ≤ 6 * s.size + 1 := by
          have := body_len (s.data.toList.take i)
          rw [List.length_take, hlen] at this
          simp; omega
        have HO : Hid ((34 :: bodyL (s.data.toList.take i)).length + 10 ≤ 140737488355328) := by show _ ≤ _; omega
        have hc0 : (0 : Int) ≤ (c.toNat : Int) := by omega
        have hc1 : (c.toNat : Int) < 256 := by have := UInt8.toNat_lt c; omega
        generalize 34 :: bodyL (s.data.toList.take i) = out0 at *
        rw [hcc] at hx
        obtain ⟨cc, hcd⟩ : ∃ cc, (c.toNat : Int) = cc := ⟨_, rfl⟩
        have HC : Hid ((c.toNat : Int) = cc) := hcd
        rw [hcd] at hx hc0 hc1
        clear hc hcc hol hcd
        have HL : Hid (s.data.toList.length = s.size) := hlen
        clear hlen hil
        go_wp2_with fail
        go_loopw [9, 11, 12] (fun u b t wr2 => ∃ k : Nat, k ≤ 7 ∧ t = .int .i64 (k : Int) ∧ b = .bool (decide (idxC cc < k)) ∧ wr2.ownsRow w.heap.size 5 1 u (outK cc k out0).length (cellsL (outK cc k out0)) ∧ Below w.heap.size w wr2) (fun _ _ t _ => 7 - (intOf t).toNat)
        case atStart => exact ⟨0, by omega, rfl, by simp, by simpa [outK] using hown, hbel⟩
        case round =>
          obtain ⟨k, hk, rfl, rfl, hown2, hbel2⟩ := hrel
          have ek : k = 0 ∨ k = 1 ∨ k = 2 ∨ k = 3 ∨ k = 4 ∨ k = 5 ∨ k = 6 ∨ k = 7 := by omega
          rcases ek with rfl | rfl | rfl | rfl | rfl | rfl | rfl | rfl
          · by_cases hh : cc = 34
            · obtain ⟨e1, _, e3, e4⟩ := outK_hit (c := cc) (k := 0) (out := out0) (by rw [hh]; rfl)
              rw [e1] at hown2
              have hRl := fun q => Row.below (row_ws wr [92, 34] 5 (by decide)) (bl_n (Below.refl _ _) q)
              have own3 := fun q => own_below (hown2.alloc (.cells #[.int .u8 92, .int .u8 34] 5)) (bl_n (Below.refl _ _) q)
              have hbb := fun q => bl_n (bl_a hbel2 (.cells #[.int .u8 92, .int .u8 34] 5)) q
              have HE : Hid (decide (idxC cc < 0 + 1) = true ∧ outK cc (0 + 1) out0 = out0 ++ [92, 34]) := ⟨e4, e3⟩
              clear e1 e3 e4
              have hce : (cc == 34) = true := by rw [hh]; rfl
              have hf1 : ((⟨#[34, 92, 8, 12, 10, 13, 9]⟩ : ByteArray)[0]'(by decide)).toNat = 34 := rfl
              have hf2 : ((⟨#[34, 92, 98, 102, 110, 114, 116]⟩ : ByteArray)[0]'(by decide)).toNat = 34 := rfl
              clear hh
              go_wp2_with fail
              go_quiet (fail)
              go_wp2_with (at_builtin; refine wpList_append_row rfl (.tmp 41) (.tmp 45) rfl _ _ _ _ rfl (own3 _) _ 2 (bx [92, 34]) rfl (hRl _) ?_ ?_ ?_)
              · have := HO.out; omega
              · exact (hbb _).size
              · intro v3 w3 hown3 hgrow3
                have hb3 := (hbb _).grown hgrow3 (hbb _).size (fun j hj => ((own3 0).lt j hj).1)
                have own4 := own_cat (b := [92, 34]) (m := 2) rfl rfl hown3
                clear own3 hgrow3 hown3 hRl hbb
                go_wp2
                go_roundw
                case rel => exact ⟨1, by omega, by go_num, by rw [HE.out.1], by rw [HE.out.2]; exact own4, hb3⟩
                case measure => simp [intOf]
            · have hne : (cc == 34) = false := beq_eq_false_iff_ne.2 hh
              have hf1 : ((⟨#[34, 92, 8, 12, 10, 13, 9]⟩ : ByteArray)[0]'(by decide)).toNat = 34 := rfl
              obtain ⟨e1, e2⟩ := outK_next (c := cc) (k := 0) (out := out0) (idx0 hh)
              have HE : Hid (decide (idxC cc < 0 + 1) = decide (idxC cc < 0) ∧ outK cc (0 + 1) out0 = outK cc 0 out0) := ⟨e2, e1⟩
              clear e1 e2 hh
              go_wp2_with fail
              go_quiet (fail)
              go_wp2
              go_roundw
              case rel => exact ⟨1, by omega, by go_num, by rw [HE.out.1], by rw [HE.out.2]; exact hown2, bl_n hbel2 _⟩
              case measure => simp [intOf]
          · by_cases hh : cc = 92
            · obtain ⟨e1, _, e3, e4⟩ := outK_hit (c := cc) (k := 1) (out := out0) (by rw [hh]; rfl)
              rw [e1] at hown2
              have hRl := fun q => Row.below (row_ws wr [92, 92] 5 (by decide)) (bl_n (Below.refl _ _) q)
              have own3 := fun q => own_below (hown2.alloc (.cells #[.int .u8 92, .int .u8 92] 5)) (bl_n (Below.refl _ _) q)
              have hbb := fun q => bl_n (bl_a hbel2 (.cells #[.int .u8 92, .int .u8 92] 5)) q
              have HE : Hid (decide (idxC cc < 1 + 1) = true ∧ outK cc (1 + 1) out0 = out0 ++ [92, 92]) := ⟨e4, e3⟩
              clear e1 e3 e4
              have hce : (cc == 92) = true := by rw [hh]; rfl
              have hf1 : ((⟨#[34, 92, 8, 12, 10, 13, 9]⟩ : ByteArray)[1]'(by decide)).toNat = 92 := rfl
              have hf2 : ((⟨#[34, 92, 98, 102, 110, 114, 116]⟩ : ByteArray)[1]'(by decide)).toNat = 92 := rfl
              clear hh
              go_wp2_with fail
              go_quiet (fail)
              go_wp2_with (at_builtin; refine wpList_append_row rfl (.tmp 41) (.tmp 45) rfl _ _ _ _ rfl (own3 _) _ 2 (bx [92, 92]) rfl (hRl _) ?_ ?_ ?_)
              · have := HO.out; omega
              · exact (hbb _).size
              · intro v3 w3 hown3 hgrow3
                have hb3 := (hbb _).grown hgrow3 (hbb _).size (fun j hj => ((own3 0).lt j hj).1)
                have own4 := own_cat (b := [92, 92]) (m := 2) rfl rfl hown3
                clear own3 hgrow3 hown3 hRl hbb
                go_wp2
                go_roundw
                case rel => exact ⟨2, by omega, by go_num, by rw [HE.out.1], by rw [HE.out.2]; exact own4, hb3⟩
                case measure => simp [intOf]
            · have hne : (cc == 92) = false := beq_eq_false_iff_ne.2 hh
              have hf1 : ((⟨#[34, 92, 8, 12, 10, 13, 9]⟩ : ByteArray)[1]'(by decide)).toNat = 92 := rfl
              obtain ⟨e1, e2⟩ := outK_next (c := cc) (k := 1) (out := out0) (idx1 hh)
              have HE : Hid (decide (idxC cc < 1 + 1) = decide (idxC cc < 1) ∧ outK cc (1 + 1) out0 = outK cc 1 out0) := ⟨e2, e1⟩
              clear e1 e2 hh
              go_wp2_with fail
              go_quiet (fail)
              go_wp2
              go_roundw
              case rel => exact ⟨2, by omega, by go_num, by rw [HE.out.1], by rw [HE.out.2]; exact hown2, bl_n hbel2 _⟩
              case measure => simp [intOf]
          · by_cases hh : cc = 8
            · obtain ⟨e1, _, e3, e4⟩ := outK_hit (c := cc) (k := 2) (out := out0) (by rw [hh]; rfl)
              rw [e1] at hown2
              have hRl := fun q => Row.below (row_ws wr [92, 98] 5 (by decide)) (bl_n (Below.refl _ _) q)
              have own3 := fun q => own_below (hown2.alloc (.cells #[.int .u8 92, .int .u8 98] 5)) (bl_n (Below.refl _ _) q)
              have hbb := fun q => bl_n (bl_a hbel2 (.cells #[.int .u8 92, .int .u8 98] 5)) q
              have HE : Hid (decide (idxC cc < 2 + 1) = true ∧ outK cc (2 + 1) out0 = out0 ++ [92, 98]) := ⟨e4, e3⟩
              clear e1 e3 e4
              have hce : (cc == 8) = true := by rw [hh]; rfl
              have hf1 : ((⟨#[34, 92, 8, 12, 10, 13, 9]⟩ : ByteArray)[2]'(by decide)).toNat = 8 := rfl
              have hf2 : ((⟨#[34, 92, 98, 102, 110, 114, 116]⟩ : ByteArray)[2]'(by decide)).toNat = 98 := rfl
              clear hh
              go_wp2_with fail
              go_quiet (fail)
              go_wp2_with (at_builtin; refine wpList_append_row rfl (.tmp 41) (.tmp 45) rfl _ _ _ _ rfl (own3 _) _ 2 (bx [92, 98]) rfl (hRl _) ?_ ?_ ?_)
              · have := HO.out; omega
              · exact (hbb _).size
              · intro v3 w3 hown3 hgrow3
                have hb3 := (hbb _).grown hgrow3 (hbb _).size (fun j hj => ((own3 0).lt j hj).1)
                have own4 := own_cat (b := [92, 98]) (m := 2) rfl rfl hown3
                clear own3 hgrow3 hown3 hRl hbb
                go_wp2
                go_roundw
                case rel => exact ⟨3, by omega, by go_num, by rw [HE.out.1], by rw [HE.out.2]; exact own4, hb3⟩
                case measure => simp [intOf]
            · have hne : (cc == 8) = false := beq_eq_false_iff_ne.2 hh
              have hf1 : ((⟨#[34, 92, 8, 12, 10, 13, 9]⟩ : ByteArray)[2]'(by decide)).toNat = 8 := rfl
              obtain ⟨e1, e2⟩ := outK_next (c := cc) (k := 2) (out := out0) (idx2 hh)
              have HE : Hid (decide (idxC cc < 2 + 1) = decide (idxC cc < 2) ∧ outK cc (2 + 1) out0 = outK cc 2 out0) := ⟨e2, e1⟩
              clear e1 e2 hh
              go_wp2_with fail
              go_quiet (fail)
              go_wp2
              go_roundw
              case rel => exact ⟨3, by omega, by go_num, by rw [HE.out.1], by rw [HE.out.2]; exact hown2, bl_n hbel2 _⟩
              case measure => simp [intOf]
          · by_cases hh : cc = 12
            · obtain ⟨e1, _, e3, e4⟩ := outK_hit (c := cc) (k := 3) (out := out0) (by rw [hh]; rfl)
              rw [e1] at hown2
              have hRl := fun q => Row.below (row_ws wr [92, 102] 5 (by decide)) (bl_n (Below.refl _ _) q)
              have own3 := fun q => own_below (hown2.alloc (.cells #[.int .u8 92, .int .u8 102] 5)) (bl_n (Below.refl _ _) q)
              have hbb := fun q => bl_n (bl_a hbel2 (.cells #[.int .u8 92, .int .u8 102] 5)) q
              have HE : Hid (decide (idxC cc < 3 + 1) = true ∧ outK cc (3 + 1) out0 = out0 ++ [92, 102]) := ⟨e4, e3⟩
              clear e1 e3 e4
              have hce : (cc == 12) = true := by rw [hh]; rfl
              have hf1 : ((⟨#[34, 92, 8, 12, 10, 13, 9]⟩ : ByteArray)[3]'(by decide)).toNat = 12 := rfl
              have hf2 : ((⟨#[34, 92, 98, 102, 110, 114, 116]⟩ : ByteArray)[3]'(by decide)).toNat = 102 := rfl
              clear hh
              go_wp2_with fail
              go_quiet (fail)
              go_wp2_with (at_builtin; refine wpList_append_row rfl (.tmp 41) (.tmp 45) rfl _ _ _ _ rfl (own3 _) _ 2 (bx [92, 102]) rfl (hRl _) ?_ ?_ ?_)
              · have := HO.out; omega
              · exact (hbb _).size
              · intro v3 w3 hown3 hgrow3
                have hb3 := (hbb _).grown hgrow3 (hbb _).size (fun j hj => ((own3 0).lt j hj).1)
                have own4 := own_cat (b := [92, 102]) (m := 2) rfl rfl hown3
                clear own3 hgrow3 hown3 hRl hbb
                go_wp2
                go_roundw
                case rel => exact ⟨4, by omega, by go_num, by rw [HE.out.1], by rw [HE.out.2]; exact own4, hb3⟩
                case measure => simp [intOf]
            · have hne : (cc == 12) = false := beq_eq_false_iff_ne.2 hh
              have hf1 : ((⟨#[34, 92, 8, 12, 10, 13, 9]⟩ : ByteArray)[3]'(by decide)).toNat = 12 := rfl
              obtain ⟨e1, e2⟩ := outK_next (c := cc) (k := 3) (out := out0) (idx3 hh)
              have HE : Hid (decide (idxC cc < 3 + 1) = decide (idxC cc < 3) ∧ outK cc (3 + 1) out0 = outK cc 3 out0) := ⟨e2, e1⟩
              clear e1 e2 hh
              go_wp2_with fail
              go_quiet (fail)
              go_wp2
              go_roundw
              case rel => exact ⟨4, by omega, by go_num, by rw [HE.out.1], by rw [HE.out.2]; exact hown2, bl_n hbel2 _⟩
              case measure => simp [intOf]
          · by_cases hh : cc = 10
            · obtain ⟨e1, _, e3, e4⟩ := outK_hit (c := cc) (k := 4) (out := out0) (by rw [hh]; rfl)
              rw [e1] at hown2
              have hRl := fun q => Row.below (row_ws wr [92, 110] 5 (by decide)) (bl_n (Below.refl _ _) q)
              have own3 := fun q => own_below (hown2.alloc (.cells #[.int .u8 92, .int .u8 110] 5)) (bl_n (Below.refl _ _) q)
              have hbb := fun q => bl_n (bl_a hbel2 (.cells #[.int .u8 92, .int .u8 110] 5)) q
              have HE : Hid (decide (idxC cc < 4 + 1) = true ∧ outK cc (4 + 1) out0 = out0 ++ [92, 110]) := ⟨e4, e3⟩
              clear e1 e3 e4
              have hce : (cc == 10) = true := by rw [hh]; rfl
              have hf1 : ((⟨#[34, 92, 8, 12, 10, 13, 9]⟩ : ByteArray)[4]'(by decide)).toNat = 10 := rfl
              have hf2 : ((⟨#[34, 92, 98, 102, 110, 114, 116]⟩ : ByteArray)[4]'(by decide)).toNat = 110 := rfl
              clear hh
              go_wp2_with fail
              go_quiet (fail)
              go_wp2_with (at_builtin; refine wpList_append_row rfl (.tmp 41) (.tmp 45) rfl _ _ _ _ rfl (own3 _) _ 2 (bx [92, 110]) rfl (hRl _) ?_ ?_ ?_)
              · have := HO.out; omega
              · exact (hbb _).size
              · intro v3 w3 hown3 hgrow3
                have hb3 := (hbb _).grown hgrow3 (hbb _).size (fun j hj => ((own3 0).lt j hj).1)
                have own4 := own_cat (b := [92, 110]) (m := 2) rfl rfl hown3
                clear own3 hgrow3 hown3 hRl hbb
                go_wp2
                go_roundw
                case rel => exact ⟨5, by omega, by go_num, by rw [HE.out.1], by rw [HE.out.2]; exact own4, hb3⟩
                case measure => simp [intOf]
            · have hne : (cc == 10) = false := beq_eq_false_iff_ne.2 hh
              have hf1 : ((⟨#[34, 92, 8, 12, 10, 13, 9]⟩ : ByteArray)[4]'(by decide)).toNat = 10 := rfl
              obtain ⟨e1, e2⟩ := outK_next (c := cc) (k := 4) (out := out0) (idx4 hh)
              have HE : Hid (decide (idxC cc < 4 + 1) = decide (idxC cc < 4) ∧ outK cc (4 + 1) out0 = outK cc 4 out0) := ⟨e2, e1⟩
              clear e1 e2 hh
              go_wp2_with fail
              go_quiet (fail)
              go_wp2
              go_roundw
              case rel => exact ⟨5, by omega, by go_num, by rw [HE.out.1], by rw [HE.out.2]; exact hown2, bl_n hbel2 _⟩
              case measure => simp [intOf]
          · by_cases hh : cc = 13
            · obtain ⟨e1, _, e3, e4⟩ := outK_hit (c := cc) (k := 5) (out := out0) (by rw [hh]; rfl)
              rw [e1] at hown2
              have hRl := fun q => Row.below (row_ws wr [92, 114] 5 (by decide)) (bl_n (Below.refl _ _) q)
              have own3 := fun q => own_below (hown2.alloc (.cells #[.int .u8 92, .int .u8 114] 5)) (bl_n (Below.refl _ _) q)
              have hbb := fun q => bl_n (bl_a hbel2 (.cells #[.int .u8 92, .int .u8 114] 5)) q
              have HE : Hid (decide (idxC cc < 5 + 1) = true ∧ outK cc (5 + 1) out0 = out0 ++ [92, 114]) := ⟨e4, e3⟩
              clear e1 e3 e4
              have hce : (cc == 13) = true := by rw [hh]; rfl
              have hf1 : ((⟨#[34, 92, 8, 12, 10, 13, 9]⟩ : ByteArray)[5]'(by decide)).toNat = 13 := rfl
              have hf2 : ((⟨#[34, 92, 98, 102, 110, 114, 116]⟩ : ByteArray)[5]'(by decide)).toNat = 114 := rfl
              clear hh
              go_wp2_with fail
              go_quiet (fail)
              go_wp2_with (at_builtin; refine wpList_append_row rfl (.tmp 41) (.tmp 45) rfl _ _ _ _ rfl (own3 _) _ 2 (bx [92, 114]) rfl (hRl _) ?_ ?_ ?_)
              · have := HO.out; omega
              · exact (hbb _).size
              · intro v3 w3 hown3 hgrow3
                have hb3 := (hbb _).grown hgrow3 (hbb _).size (fun j hj => ((own3 0).lt j hj).1)
                have own4 := own_cat (b := [92, 114]) (m := 2) rfl rfl hown3
                clear own3 hgrow3 hown3 hRl hbb
                go_wp2
                go_roundw
                case rel => exact ⟨6, by omega, by go_num, by rw [HE.out.1], by rw [HE.out.2]; exact own4, hb3⟩
                case measure => simp [intOf]
            · have hne : (cc == 13) = false := beq_eq_false_iff_ne.2 hh
              have hf1 : ((⟨#[34, 92, 8, 12, 10, 13, 9]⟩ : ByteArray)[5]'(by decide)).toNat = 13 := rfl
              obtain ⟨e1, e2⟩ := outK_next (c := cc) (k := 5) (out := out0) (idx5 hh)
              have HE : Hid (decide (idxC cc < 5 + 1) = decide (idxC cc < 5) ∧ outK cc (5 + 1) out0 = outK cc 5 out0) := ⟨e2, e1⟩
              clear e1 e2 hh
              go_wp2_with fail
              go_quiet (fail)
              go_wp2
              go_roundw
              case rel => exact ⟨6, by omega, by go_num, by rw [HE.out.1], by rw [HE.out.2]; exact hown2, bl_n hbel2 _⟩
              case measure => simp [intOf]
          · by_cases hh : cc = 9
            · obtain ⟨e1, _, e3, e4⟩ := outK_hit (c := cc) (k := 6) (out := out0) (by rw [hh]; rfl)
              rw [e1] at hown2
              have hRl := fun q => Row.below (row_ws wr [92, 116] 5 (by decide)) (bl_n (Below.refl _ _) q)
              have own3 := fun q => own_below (hown2.alloc (.cells #[.int .u8 92, .int .u8 116] 5)) (bl_n (Below.refl _ _) q)
              have hbb := fun q => bl_n (bl_a hbel2 (.cells #[.int .u8 92, .int .u8 116] 5)) q
              have HE : Hid (decide (idxC cc < 6 + 1) = true ∧ outK cc (6 + 1) out0 = out0 ++ [92, 116]) := ⟨e4, e3⟩
              clear e1 e3 e4
              have hce : (cc == 9) = true := by rw [hh]; rfl
              have hf1 : ((⟨#[34, 92, 8, 12, 10, 13, 9]⟩ : ByteArray)[6]'(by decide)).toNat = 9 := rfl
              have hf2 : ((⟨#[34, 92, 98, 102, 110, 114, 116]⟩ : ByteArray)[6]'(by decide)).toNat = 116 := rfl
              clear hh
              go_wp2_with fail
              go_quiet (fail)
              go_wp2_with (at_builtin; refine wpList_append_row rfl (.tmp 41) (.tmp 45) rfl _ _ _ _ rfl (own3 _) _ 2 (bx [92, 116]) rfl (hRl _) ?_ ?_ ?_)
              · have := HO.out; omega
              · exact (hbb _).size
              · intro v3 w3 hown3 hgrow3
                have hb3 := (hbb _).grown hgrow3 (hbb _).size (fun j hj => ((own3 0).lt j hj).1)
                have own4 := own_cat (b := [92, 116]) (m := 2) rfl rfl hown3
                clear own3 hgrow3 hown3 hRl hbb
                go_wp2
                go_roundw
                case rel => exact ⟨7, by omega, by go_num, by rw [HE.out.1], by rw [HE.out.2]; exact own4, hb3⟩
                case measure => simp [intOf]
            · have hne : (cc == 9) = false := beq_eq_false_iff_ne.2 hh
              have hf1 : ((⟨#[34, 92, 8, 12, 10, 13, 9]⟩ : ByteArray)[6]'(by decide)).toNat = 9 := rfl
              obtain ⟨e1, e2⟩ := outK_next (c := cc) (k := 6) (out := out0) (idx6 hh)
              have HE : Hid (decide (idxC cc < 6 + 1) = decide (idxC cc < 6) ∧ outK cc (6 + 1) out0 = outK cc 6 out0) := ⟨e2, e1⟩
              clear e1 e2 hh
              go_wp2_with fail
              go_quiet (fail)
              go_wp2
              go_roundw
              case rel => exact ⟨7, by omega, by go_num, by rw [HE.out.1], by rw [HE.out.2]; exact hown2, bl_n hbel2 _⟩
              case measure => simp [intOf]
          · have hdd : decide (idxC cc < 7) = decide (idxC cc < 7) := rfl
            clear hdd
            by_cases h7 : idxC cc < 7
            · have ed : decide (idxC cc < 7) = true := decide_eq_true h7
              have HE : Hid (34 :: bodyL (s.data.toList.take (i + 1)) = outK cc 7 out0) := by
                show _ = _
                rw [HN.out, spec_esc (by rw [HC.out]; exact h7), HC.out]
                unfold outK
                rw [if_pos h7]
              clear h7
              generalize outK cc 7 out0 = o7 at *
              rw [ed]
              clear ed
              go_wp2
              go_roundw
              case rel => exact ⟨i + 1, by go_num, by omega, by rw [HE.out]; exact hown2, hbel2⟩
              case measure => simp [intOf]; omega
            · have ed : decide (idxC cc < 7) = false := decide_eq_false h7
              have e7 : outK cc 7 out0 = out0 := by unfold outK; rw [if_neg h7]
              rw [e7] at hown2
              rw [ed]
              clear ed e7
              by_cases h32 : cc < 32
              · have u15 := u8m15 cc hc0 hc1
                have HE : Hid (34 :: bodyL (s.data.toList.take (i + 1)) = out0 ++ [92, 117, 48, 48, hexC (c.toNat / 16), hexC (c.toNat % 16)]) := by
                  show _ = _
                  rw [HN.out, spec_low (by rw [HC.out]; exact h7) (by rw [HC.out]; exact h32)]
                have hR6 := fun (x y : UInt8) => (show Row ((wr.alloc (.cells #[.int .u8 92, .int .u8 117, .int .u8 48, .int .u8 48, .int .u8 (x.toNat : Int), .int .u8 (y.toNat : Int)] 5)).drew) (.slice (some ⟨wr.heap.size, 0, none⟩) 6 6) 6 (bx [92, 117, 48, 48, x, y]) from Row.below (row_ws wr [92, 117, 48, 48, x, y] 5 (by simp)) (bl_d (Below.refl _ _)))
                have own6 := fun (x y : UInt8) => own_below (hown2.alloc (.cells #[.int .u8 92, .int .u8 117, .int .u8 48, .int .u8 48, .int .u8 (x.toNat : Int), .int .u8 (y.toNat : Int)] 5)) (bl_d (Below.refl _ _))
                have hbb := fun (x y : UInt8) => bl_d (bl_a hbel2 (.cells #[.int .u8 92, .int .u8 117, .int .u8 48, .int .u8 48, .int .u8 (x.toNat : Int), .int .u8 (y.toNat : Int)] 5))
                have hbd : out0.length + 6 ≤ 140737488355328 := by have := HO.out; omega
                have HA : Hid (cc / 16 = ((c.toNat / 16 : Nat) : Int) ∧ c.toNat / 16 < 16) := by
                  have := HC.out
                  exact ⟨by omega, by omega⟩
                have HB : Hid (cc % 16 = ((c.toNat % 16 : Nat) : Int) ∧ c.toNat % 16 < 16) := by
                  have := HC.out
                  exact ⟨by omega, by omega⟩
                clear h7
                go_wp2_with fail
                go_region_held3 (fun _ => True) (trivial) (first | (refine step_append_row (by rfl) _ _ (by rfl) w.heap.size _ _ _ (by rfl) (own6 _ _) ⟨wr.heap.size, 0, none⟩ 6 6 (bx [92, 117, 48, 48, _, _]) (by rfl) (hR6 _ _) hbd (hbb _ _).size ?_; intro v3 w3 hown3 hgrow3; have hb3 := (hbb _ _).grown hgrow3 (hbb _ _).size (fun j hj => ((own6 0 0).lt j hj).1)) | fail)
                all_goals
                  have own4 := own_cat (m := 6) rfl rfl hown3
                  rw [dget (cc / 16) (c.toNat / 16) HA.out.1 HA.out.2, dget (cc % 16) (c.toNat % 16) HB.out.1 HB.out.2] at own4
                  clear own6 hgrow3 hown3 hR6 hbb
                  go_wp2
                  go_roundw
                  case rel => exact ⟨i + 1, by go_num, by omega, by rw [HE.out]; exact own4, hb3⟩
                  case measure => simp [intOf]; omega
              · have HE : Hid (34 :: bodyL (s.data.toList.take (i + 1)) = out0 ++ [c]) := by
                  show _ = _
                  rw [HN.out, spec_plain (by rw [HC.out]; exact h7) (by rw [HC.out]; exact h32)]
                have hR1 : Row (wr.alloc (.cells #[.int .u8 cc] 5)) (.slice (some ⟨wr.heap.size, 0, none⟩) 1 1) 1 (bx [c]) := by
                  have := row_ws wr [c] 5 (by simp)
                  rw [← HC.out]
                  exact this
                have own1 := hown2.alloc (.cells #[.int .u8 cc] 5)
                have hbb := bl_a hbel2 (.cells #[.int .u8 cc] 5)
                have hd : decide (cc < 32) = false := decide_eq_false h32
                clear h7
                go_wp2_with (at_builtin; refine wpList_append_row rfl (.tmp 47) (.tmp 51) rfl _ _ _ _ rfl own1 _ 1 (bx [c]) rfl hR1 ?_ ?_ ?_)
                · have := HO.out; omega
                · have := hbb.size; simpa using this
                · intro v3 w3 hown3 hgrow3
                  have hb3 := hbb.grown hgrow3 hbb.size (fun j hj => (own1.lt j hj).1)
                  have own4 := own_cat (b := [c]) (m := 1) rfl rfl hown3
                  clear own1 hgrow3 hown3
                  go_wp2
                  go_roundw
                  case rel => exact ⟨i + 1, by go_num, by omega, by rw [HE.out]; exact own4, hb3⟩
                  case measure => simp [intOf]; omega
      · have hiI : ¬ (i : Int) < (s.size : Int) := by omega
        have ei : i = s.size := by omega
        have hq : 34 :: bodyL (s.data.toList.take i) ++ [34] = quoteL s.data.toList := by
          rw [List.take_of_length_le (by rw [hlen]; omega)]; rfl
        have HO : Hid ((34 :: bodyL (s.data.toList.take i)).length + 1 ≤ 140737488355328) := by
          show _ ≤ _
          have := body_len (s.data.toList.take i)
          rw [List.length_take, hlen] at this
          simp; omega
        have hR1 := row_ws wr [34] 5 (by decide)
        have own1 := hown.alloc (.cells #[.int .u8 34] 5)
        have hbb := bl_a hbel (.cells #[.int .u8 34] 5)
        clear ei hlen
        go_wp2_with (at_builtin; refine wpList_append_row rfl (.tmp 75) (.tmp 76) rfl _ _ _ _ rfl own1 _ 1 (bx [34]) rfl hR1 ?_ ?_ ?_)
        · have := HO.out; simpa using this
        · have := hbb.size; simpa using this
        · intro v3 w3 hown3 hgrow3
          have hb3 := hbb.grown hgrow3 hbb.size (fun j hj => (own1.lt j hj).1)
          have own4 := own_cat (b := [34]) (m := 1) rfl rfl hown3
          rw [hq] at own4
          have hconv := conv_list w3 v3 _ (own_byt own4)
          clear own1 hgrow3 hown3 own4
          go_wp2
          go_ret2
          exact ⟨rfl, hb3⟩
end Go.Proofs.YtpeoepcfiejpmaaDoor
