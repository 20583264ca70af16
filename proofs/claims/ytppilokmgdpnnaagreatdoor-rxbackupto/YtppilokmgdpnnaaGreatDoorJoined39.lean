/-
  The text of a tree as bytes, and as code points. No condition.
  Trees in which nothing is longer than a bound. No condition.
-/
import Derived.Test.YtppilokmgdpnnaaGreatDoorJoined32
import Derived.Test.YtppilokmgdpnnaaGreatDoorJoined38
import Derived.Test.YtppilokmgdpnnaaGreatDoorJoined27
import Derived.Test.YtppilokmgdpnnaaGreatDoorJoined6
namespace Go.Proofs.YtppilokmgdpnnaaGreatDoor
open Go.RowKit

theorem bx_bs (n : Nat) (f : Nat → Int) (lo : ∀ i, 0 ≤ f i) (hi : ∀ i, f i < 256) (i : Nat) (h : i < n) : bx (bs n f) i = f i := by
  have hl : i < (bs n f).length := by rw [bs_length]; exact h
  unfold bx
  rw [List.getElem?_eq_getElem hl]
  exact bs_at n f lo hi i hl
theorem ptB_isPt (p : Int) : ptB p = isPt p := by
  rw [Bool.eq_iff_iff]
  unfold ptB isPt
  simp
  omega
theorem enc_utf (p : Nat) (h : ptB p = true) : Utf (encL p) [(p : Int)] := by
  unfold ptB at h
  simp only [decide_eq_true_eq] at h
  obtain ⟨h0, h1, h2⟩ := h
  have e : ∀ i, i < encN p → bx (encL p) i = encF p i := fun i hi => bx_bs _ _ (encF_lo p h0 h1) (encF_hi p h0 h1) i hi
  have hlen : (encL p).length = encN p := bs_length _ _
  have hst : stepF (encL p).length (bx (encL p)) = ((encL p).length, true) ∧ ptF (bx (encL p)) (encL p).length = (p : Int) := by
    rw [hlen]
    by_cases c1 : (p : Int) < 128
    · have en : encN p = 1 := by unfold encN; rw [if_pos c1]
      have e0 : bx (encL p) 0 = p := by rw [e 0 (by omega)]; unfold encF; rw [if_pos c1]; rfl
      rw [en]
      unfold stepF ptF stN
      rw [e0, if_pos c1]
      exact ⟨rfl, rfl⟩
    · by_cases c2 : (p : Int) < 2048
      · have en : encN p = 2 := by unfold encN; rw [if_neg c1, if_pos c2]
        have e0 : bx (encL p) 0 = 192 + p / 64 := by rw [e 0 (by omega)]; unfold encF; rw [if_neg c1, if_pos c2]; rfl
        have e1 : bx (encL p) 1 = 128 + p % 64 := by rw [e 1 (by omega)]; unfold encF; rw [if_neg c1, if_pos c2]; rfl
        have s0 : stN (192 + (p : Int) / 64) = 2 := by unfold stN; rw [if_neg (by omega), if_pos (by omega)]
        have s1 : secB (192 + (p : Int) / 64) (128 + (p : Int) % 64) = true := by unfold secB; simp only [decide_eq_true_eq]; ((repeat' split) <;> omega)
        rw [en]
        unfold stepF ptF
        rw [e0, e1, s0, s1]
        exact ⟨rfl, by rw [if_neg (by omega), if_pos rfl]; omega⟩
      · by_cases c3 : (p : Int) < 65536
        · have en : encN p = 3 := by unfold encN; rw [if_neg c1, if_neg c2, if_pos c3]
          have e0 : bx (encL p) 0 = 224 + p / 4096 := by rw [e 0 (by omega)]; unfold encF; rw [if_neg c1, if_neg c2, if_pos c3]; rfl
          have e1 : bx (encL p) 1 = 128 + p / 64 % 64 := by rw [e 1 (by omega)]; unfold encF; rw [if_neg c1, if_neg c2, if_pos c3]; rfl
          have e2 : bx (encL p) 2 = 128 + p % 64 := by rw [e 2 (by omega)]; unfold encF; rw [if_neg c1, if_neg c2, if_pos c3]; rfl
          have s0 : stN (224 + (p : Int) / 4096) = 3 := by unfold stN; rw [if_neg (by omega), if_neg (by omega), if_pos (by omega)]
          have s1 : secB (224 + (p : Int) / 4096) (128 + (p : Int) / 64 % 64) = true := by unfold secB; simp only [decide_eq_true_eq]; ((repeat' split) <;> omega)
          have s2 : folB (128 + (p : Int) % 64) = true := by unfold folB; simp; omega
          rw [en]
          unfold stepF ptF
          rw [e0, e1, e2, s0, s1, s2]
          exact ⟨rfl, by rw [if_neg (by omega), if_neg (by omega), if_pos rfl]; omega⟩
        · have en : encN p = 4 := by unfold encN; rw [if_neg c1, if_neg c2, if_neg c3]
          have e0 : bx (encL p) 0 = 240 + p / 262144 := by rw [e 0 (by omega)]; unfold encF; rw [if_neg c1, if_neg c2, if_neg c3]; rfl
          have e1 : bx (encL p) 1 = 128 + p / 4096 % 64 := by rw [e 1 (by omega)]; unfold encF; rw [if_neg c1, if_neg c2, if_neg c3]; rfl
          have e2 : bx (encL p) 2 = 128 + p / 64 % 64 := by rw [e 2 (by omega)]; unfold encF; rw [if_neg c1, if_neg c2, if_neg c3]; rfl
          have e3 : bx (encL p) 3 = 128 + p % 64 := by rw [e 3 (by omega)]; unfold encF; rw [if_neg c1, if_neg c2, if_neg c3]; rfl
          have s0 : stN (240 + (p : Int) / 262144) = 4 := by unfold stN; rw [if_neg (by omega), if_neg (by omega), if_neg (by omega), if_pos (by omega)]
          have s1 : secB (240 + (p : Int) / 262144) (128 + (p : Int) / 4096 % 64) = true := by unfold secB; simp only [decide_eq_true_eq]; ((repeat' split) <;> omega)
          have s2 : folB (128 + (p : Int) / 64 % 64) = true := by unfold folB; simp; omega
          have s3 : folB (128 + (p : Int) % 64) = true := by unfold folB; simp; omega
          rw [en]
          unfold stepF ptF
          rw [e0, e1, e2, e3, s0, s1, s2, s3]
          exact ⟨rfl, by rw [if_neg (by omega), if_neg (by omega), if_neg (by omega)]; omega⟩
  have := Utf.cons hst.1 Utf.nil
  rw [hst.2, List.append_nil] at this
  exact this
theorem enc_head (p : Nat) (h : ptB p = true) : (p < 128 → encL p = [UInt8.ofNat p]) ∧ (128 ≤ p → ∃ c r, encL p = c :: r ∧ 128 ≤ c.toNat) := by
  unfold ptB at h
  simp only [decide_eq_true_eq] at h
  obtain ⟨h0, h1, h2⟩ := h
  constructor
  · intro c1
    have en : encN p = 1 := by unfold encN; rw [if_pos (by omega)]
    unfold encL bs
    rw [en]
    have : encF p 0 = p := by unfold encF; rw [if_pos (by omega)]; rfl
    simp [List.range_succ, this]
  · intro c1
    have en : 1 ≤ encN p := by unfold encN; ((repeat' split) <;> omega)
    have hl : 0 < (encL p).length := by unfold encL; rw [bs_length]; omega
    obtain ⟨c, r, e⟩ : ∃ c r, encL p = c :: r := by
      cases hq : encL p with
      | nil => rw [hq] at hl; simp at hl
      | cons c r => exact ⟨c, r, rfl⟩
    refine ⟨c, r, e, ?_⟩
    have e2 := bx_bs (encN p) (encF p) (encF_lo p h0 h1) (encF_hi p h0 h1) 0 (by omega)
    have e3 : bx (bs (encN p) (encF p)) 0 = (c.toNat : Int) := by
      show bx (encL p) 0 = _
      rw [e]; rfl
    rw [e3] at e2
    have : 128 ≤ encF p 0 := by unfold encF; ((repeat' split) <;> omega)
    omega
theorem occ_head (s r : List UInt8) (c : UInt8) (j : Nat) (h : Lib.occAt s (c :: r) j = true) : c ∈ s := by
  unfold Lib.occAt at h
  rw [List.isPrefixOf_iff_prefix] at h
  obtain ⟨t, ht⟩ := h
  have : c ∈ s.drop j := by rw [← ht]; simp
  exact List.mem_of_mem_drop this
theorem has_enc (sp : List UInt8) (hsp : ∀ c ∈ sp, c.toNat < 128) (p : Nat) (h : ptB p = true) : Lib.contains sp (encL p) = (sp.map fun c => (c.toNat : Int)).contains (p : Int) := by
  obtain ⟨h1, h2⟩ := enc_head p h
  by_cases c : p < 128
  · rw [h1 c]
    have key : ∀ q : UInt8, q = UInt8.ofNat p ↔ ((q.toNat : Nat) : Int) = (p : Int) := fun q => by
      constructor
      · rintro rfl; simp; omega
      · intro e; apply UInt8.toNat_inj.1; simp; omega
    rw [Bool.eq_iff_iff]
    unfold Lib.contains
    rw [decide_eq_true_eq, List.contains_iff_mem]
    constructor
    · intro hi
      rcases Lib.index_spec sp [UInt8.ofNat p] with ⟨a, _⟩ | ⟨i, _, _, b, _⟩
      · omega
      · exact List.mem_map.2 ⟨_, occ_head _ _ _ _ b, (key _).1 rfl⟩
    · intro hm
      obtain ⟨q, hq, e⟩ := List.mem_map.1 hm
      obtain rfl := (key q).2 e
      rcases Lib.index_spec sp [UInt8.ofNat p] with ⟨a, b⟩ | ⟨i, a, _⟩
      · exfalso
        obtain ⟨j, hj, ej⟩ := List.getElem_of_mem hq
        have := b j (by omega)
        unfold Lib.occAt at this
        rw [List.drop_eq_getElem_cons hj, ej] at this
        simp at this
      · omega
  · obtain ⟨q, r, e, hq⟩ := h2 (by omega)
    rw [e]
    have e1 : Lib.contains sp (q :: r) = false := by
      unfold Lib.contains
      rw [decide_eq_false_iff_not]
      intro hi
      rcases Lib.index_spec sp (q :: r) with ⟨a, _⟩ | ⟨i, _, _, b, _⟩
      · omega
      · have := hsp q (occ_head _ _ _ _ b); omega
    rw [e1]
    symm
    rw [Bool.eq_false_iff, ne_eq, List.contains_iff_mem]
    intro hm
    obtain ⟨q, hq, e⟩ := List.mem_map.1 hm
    have := hsp q hq
    omega
theorem hxd_utf (d : Nat) (h : d < 16) : Utf (hexL d) [hxI (d : Int)] := by
  rw [hexL_lo h]
  have : ∀ d : Nat, d < 16 → (hxd d).toNat < 128 ∧ ((hxd d).toNat : Int) = hxI (d : Int) := by decide
  obtain ⟨a, b⟩ := this d h
  rw [← b]
  exact Utf.one _ a
theorem Utf.cons1 (c : UInt8) (h : c.toNat < 128) {l : List UInt8} {ps : List Int} (hl : Utf l ps) : Utf (c :: l) ((c.toNat : Int) :: ps) := (Utf.one c h).app hl
/-- A number's bytes are its code points'. -/
theorem point_utf (sp : List UInt8) (hsp : ∀ c ∈ sp, c.toNat < 128) (p : Nat) (h : ptB p = true) : Utf (pointL p sp) (ptP (sp.map fun c => (c.toNat : Int)) (p : Int)) := by
  unfold pointL ptP
  by_cases c1 : 9 ≤ p ∧ p ≤ 13
  · rw [if_pos c1, if_pos (by omega)]
    obtain rfl | rfl | rfl | rfl | rfl : p = 9 ∨ p = 10 ∨ p = 11 ∨ p = 12 ∨ p = 13 := by omega
    all_goals exact Utf.ascii _ (by decide)
  · have c1' : ¬ (9 ≤ (p : Int) ∧ (p : Int) ≤ 13) := by omega
    rw [if_neg c1, if_neg c1']
    by_cases c2 : p < 32 ∨ p = 127
    · have c2' : (p : Int) < 32 ∨ (p : Int) = 127 := by omega
      rw [if_pos c2, if_pos c2']
      have a := hxd_utf (p / 16) (by omega)
      have b := hxd_utf (p % 16) (by omega)
      have := Utf.cons1 92 (by decide) (Utf.cons1 120 (by decide) (a.app b))
      simpa using this
    · have c2' : ¬ ((p : Int) < 32 ∨ (p : Int) = 127) := by omega
      rw [if_neg c2, if_neg c2', if_neg (by rw [h]; decide), has_enc sp hsp p h]
      split
      · exact Utf.cons1 92 (by decide) (enc_utf p h)
      · exact enc_utf p h
theorem clsT_P : (clsT.map fun c => (c.toNat : Int)) = clsP := by decide
theorem synT_P : (synT.map fun c => (c.toNat : Int)) = synP := by decide
theorem item_utf (a b : Nat) (ha : ptB a = true) (hb : ptB b = true) : Utf (itmL a b) (itP ((a : Int), (b : Int))) := by
  have h1 := point_utf clsT (by decide) a ha
  have h2 := point_utf clsT (by decide) b hb
  rw [clsT_P] at h1 h2
  unfold itmL itP
  refine (h1.app ?_).app ?_
  · by_cases c : a + 1 < b
    · rw [if_pos c, if_pos (by simp only; omega)]; exact Utf.one 45 (by decide)
    · rw [if_neg c, if_neg (by simp only; omega)]; exact Utf.nil
  · by_cases c : a < b
    · rw [if_pos c, if_pos (by simp only; omega)]; exact h2
    · rw [if_neg c, if_neg (by simp only; omega)]; exact Utf.nil
theorem items_utf : ∀ (l : List (Int × Int)), noSur l → Utf (itmsL l) (itsP l)
  | [], _ => Utf.nil
  | (a, b) :: l, h => by
    obtain ⟨ha, hb⟩ := h (a, b) (by simp)
    have ih := items_utf l fun r hr => h r (List.mem_cons_of_mem _ hr)
    have a0 := (pt_lo ha).1
    have b0 := (pt_lo hb).1
    simp only at ha hb a0 b0
    have ea : ((a.toNat : Nat) : Int) = a := by omega
    have eb : ((b.toNat : Nat) : Int) = b := by omega
    have hi := item_utf a.toNat b.toNat (by rw [ea, ptB_isPt]; exact ha) (by rw [eb, ptB_isPt]; exact hb)
    rw [ea, eb] at hi
    have e1 : itmsL ((a, b) :: l) = itmL a.toNat b.toNat ++ itmsL l := by simp [itmsL]
    have e2 : itsP ((a, b) :: l) = itP (a, b) ++ itsP l := by simp [itsP]
    rw [e1, e2]
    exact hi.app ih
/-- The sets that have a text of their own. -/
def namedL : List (List UInt8 × List (Int × Int)) := [([46], inLines), ([92, 100], digits), ([92, 119], wordLetters), ([92, 115], spacesL), ([92, 68], turnL digits), ([92, 87], turnL wordLetters), ([92, 83], turnL spacesL)]
theorem sur_no {l : List (Int × Int)} (h : l.any surR = false) : noSur l := fun r hr => by
  have := List.any_eq_false.1 h r hr
  unfold surR at this
  simpa using this
theorem cls_set {l : List (Int × Int)} (hc : Can l) (hn : noSur l) : ∃ T, Utf (clsTx l) T ∧ SetOK l T := by
  have hs : ∃ T, Utf (strT l) T ∧ SetOK l T := by
    refine ⟨91 :: (itsP l ++ [93]), Utf.cons1 91 (by decide) ((items_utf l hn).app (Utf.one 93 (by decide))), fun pat rest => ?_, ⟨_, _, rfl, by decide, by decide, by decide, by decide, by decide, by decide⟩, fun rest => by simp [startsW]⟩
    have := class_str hc rest
    show atomP pat (91 :: (itsP l ++ [93] ++ rest)) = _
    rw [List.append_assoc]
    simp only [atomP]
    rw [if_neg (by decide), if_pos trivial]
    exact this
  have ho : (turnL l).any surR = false → ∃ T, Utf (othT l) T ∧ SetOK l T := fun hq => by
    refine ⟨91 :: 94 :: (itsP (turnL l) ++ [93]), Utf.cons1 91 (by decide) (Utf.cons1 94 (by decide) ((items_utf _ (sur_no hq)).app (Utf.one 93 (by decide)))), fun pat rest => ?_, ⟨_, _, rfl, by decide, by decide, by decide, by decide, by decide, by decide⟩, fun rest => by simp [startsW]⟩
    have := class_oth hc rest
    show atomP pat (91 :: (94 :: (itsP (turnL l) ++ [93] ++ rest))) = _
    rw [List.append_assoc]
    simp only [atomP]
    rw [if_neg (by decide), if_pos trivial]
    exact this
  unfold clsTx
  split
  · exact hs
  · rename_i hq
    split
    · exact ho (by simpa using hq)
    · exact hs
theorem esc_set (pat : List Int → Option (RX × List Int)) (c : Int) (l : List (Int × Int)) (h : namedBy c = some l) (hc : Can l) (rest : List Int) : atomP pat (92 :: c :: rest) = some (.mk 2 l 0 0 false [], rest) := by
  simp only [atomP]
  rw [if_neg (by decide), if_neg (by decide), if_neg (by decide), if_pos trivial]
  have : escapeL (c :: rest) = some (.set l, rest) := by unfold escapeL; simp only [h]
  rw [this]
  simp only [Mark.ranges, setX, merge_set hc]
theorem can_rg (l : List (Int × Int)) (h : rgB l = true) : Can l := by
  unfold rgB at h
  exact (rg_can l).1 (of_decide_eq_true h)
theorem setOK_esc (c : Int) (l : List (Int × Int)) (h : namedBy c = some l) (hc : Can l) (h8 : c ≠ 98 ∧ c ≠ 66) : SetOK l [92, c] :=
  ⟨fun pat rest => esc_set pat c l h hc rest, ⟨_, _, rfl, by decide, by decide, by decide, by decide, by decide, by decide⟩, fun rest => by
    have e1 : (c == 98) = false := by simpa using h8.1
    have e2 : (c == 66) = false := by simpa using h8.2
    simp [startsW, e1, e2]⟩
theorem dot_set : SetOK inLines [46] := by
  refine ⟨fun pat rest => ?_, ⟨_, _, rfl, by decide, by decide, by decide, by decide, by decide, by decide⟩, fun rest => by simp [startsW]⟩
  show atomP pat (46 :: rest) = _
  simp only [atomP]
  rw [if_neg (by decide), if_neg (by decide), if_pos trivial]
  simp only [setX, inLines, merge_set (turn_can _)]
theorem find_set {l : List (Int × Int)} (hc : Can l) (hn : noSur l) : ∀ (n : List (List UInt8 × List (Int × Int))), (∀ x ∈ n, ∃ T, Utf x.1 T ∧ SetOK x.2 T) → ∃ T, Utf (findN n l) T ∧ SetOK l T
  | [], _ => cls_set hc hn
  | x :: n, h => by
    unfold findN
    split
    · rename_i e; subst e; exact h x (by simp)
    · exact find_set hc hn n fun y hy => h y (List.mem_cons_of_mem _ hy)
theorem named_set : ∀ x ∈ namedL, ∃ T, Utf x.1 T ∧ SetOK x.2 T := by
  intro x hx
  simp only [namedL, List.mem_cons, List.not_mem_nil, or_false] at hx
  rcases hx with rfl | rfl | rfl | rfl | rfl | rfl | rfl
  · exact ⟨[46], Utf.one 46 (by decide), dot_set⟩
  · exact ⟨[92, 100], Utf.ascii [92, 100] (by decide), setOK_esc 100 _ (by simp [namedBy]) (can_rg _ (by decide)) (by decide)⟩
  · exact ⟨[92, 119], Utf.ascii [92, 119] (by decide), setOK_esc 119 _ (by simp [namedBy]) (can_rg _ (by decide)) (by decide)⟩
  · exact ⟨[92, 115], Utf.ascii [92, 115] (by decide), setOK_esc 115 _ (by simp [namedBy]) (can_rg _ (by decide)) (by decide)⟩
  · exact ⟨[92, 68], Utf.ascii [92, 68] (by decide), setOK_esc 68 _ (by simp [namedBy]) (turn_can _) (by decide)⟩
  · exact ⟨[92, 87], Utf.ascii [92, 87] (by decide), setOK_esc 87 _ (by simp [namedBy]) (turn_can _) (by decide)⟩
  · exact ⟨[92, 83], Utf.ascii [92, 83] (by decide), setOK_esc 83 _ (by simp [namedBy]) (turn_can _) (by decide)⟩
theorem beg_pt (p : Int) (h : 0 ≤ p) : BegA (ptP synP p) := by
  unfold ptP
  split
  · rename_i h9
    obtain rfl | rfl | rfl | rfl | rfl : p = 9 ∨ p = 10 ∨ p = 11 ∨ p = 12 ∨ p = 13 := by omega
    all_goals exact ⟨⟨_, _, rfl, by decide, by decide, by decide, by decide, by decide, by decide⟩, fun rest => by simp [startsW]⟩
  · split
    · exact ⟨⟨_, _, rfl, by decide, by decide, by decide, by decide, by decide, by decide⟩, fun rest => by simp [startsW]⟩
    · split
      · rename_i hc
        have hm := List.contains_iff_mem.1 hc
        simp only [synP, List.mem_cons, List.not_mem_nil, or_false] at hm
        have e1 : (p == 98) = false := by simp; omega
        have e2 : (p == 66) = false := by simp; omega
        exact ⟨⟨_, _, rfl, by decide, by decide, by decide, by decide, by decide, by decide⟩, fun rest => by simp [startsW, e1, e2]⟩
      · rename_i hc
        have hm : p ∉ [94, 36, 92, 46, 42, 43, 63, 40, 41, 91, 93, 123, 125, (124 : Int)] := fun hm => hc (List.contains_iff_mem.2 hm)
        simp only [List.mem_cons, List.not_mem_nil, or_false, not_or] at hm
        have e1 : (p == 94) = false := by simp; omega
        have e2 : (p == 36) = false := by simp; omega
        have e3 : (p == 92) = false := by simp; omega
        exact ⟨⟨_, _, rfl, by omega, by omega, by omega, by omega, by omega, by omega⟩, fun rest => by simp [startsW, e1, e2, e3]⟩
theorem set_utf {l : List (Int × Int)} (hc : Can l) (hn : noSur l) : ∃ T, Utf (setL namedL l) T ∧ SetOK l T := by
  unfold setL
  split
  · rename_i h
    obtain ⟨h1, h2⟩ := h
    match l, h1 with
    | [(a, b)], _ =>
    simp only [ra, List.getD_cons_zero] at h2 ⊢
    subst h2
    obtain ⟨ha, _⟩ := hn (a, a) (by simp)
    have a0 := (pt_lo ha).1
    simp only at ha a0
    have ea : ((a.toNat : Nat) : Int) = a := by omega
    have hu := point_utf synT (by decide) a.toNat (by rw [ea, ptB_isPt]; exact ha)
    rw [synT_P, ea] at hu
    refine ⟨ptP synP a, hu, fun pat rest => ?_, beg_pt a a0⟩
    rw [atom_pt pat a a0 rest]
    simp only [setX, merge_set hc]
  · exact find_set hc hn namedL named_set
theorem dec_utf (u : Nat) : Utf (Lib.decDigits u) (decP u) := by
  induction u using Nat.strongRecOn with
  | _ u ih =>
    have one : ∀ v : Nat, v < 10 → Utf [UInt8.ofNat (48 + v)] [((48 + v : Nat) : Int)] := fun v hv => by
      have e : (UInt8.ofNat (48 + v)).toNat = 48 + v := by simp; omega
      have := Utf.one (UInt8.ofNat (48 + v)) (by rw [e]; omega)
      rw [e] at this
      exact this
    by_cases h : u < 10
    · unfold Lib.decDigits; rw [dif_pos h, decP_lo h]; exact one u h
    · unfold Lib.decDigits; rw [dif_neg h, decP_hi h]; exact (ih (u / 10) (by omega)).app (one _ (by omega))
theorem itoa_utf (a : Int) (h : 0 ≤ a) : Utf (Lib.itoa a) (decP a.toNat) := by
  unfold Lib.itoa; rw [if_neg (by omega)]; exact dec_utf _
theorem count_utf (a b : Int) (z : Bool) (ha : 0 ≤ a) (hb : b = -1 ∨ 0 ≤ b) : Utf (countT a b z) (cnP a b z) := by
  unfold countT cnP
  refine Utf.app ?_ ?_
  · unfold greedyT greedyP
    split
    · exact Utf.one 42 (by decide)
    · split
      · exact Utf.one 43 (by decide)
      · split
        · exact Utf.one 63 (by decide)
        · split
          · exact Utf.cons1 123 (by decide) ((itoa_utf a ha).app (Utf.ascii [44, 125] (by decide)))
          · split
            · exact Utf.cons1 123 (by decide) ((itoa_utf a ha).app (Utf.ascii [125] (by decide)))
            · exact Utf.cons1 123 (by decide) ((itoa_utf a ha).app (Utf.cons1 44 (by decide) ((itoa_utf b (by omega)).app (Utf.ascii [125] (by decide)))))
  · cases z
    · exact Utf.nil
    · exact Utf.one 63 (by decide)
/-- The program's text of a tree, and its code points. -/
def WB : Wr UInt8 := ⟨fun n => UInt8.ofNat n, setL namedL, countT⟩
noncomputable def WPs (l : List (Int × Int)) : List Int := @dite _ (∃ T, Utf (setL namedL l) T ∧ SetOK l T) (Classical.propDecidable _) (fun h => h.choose) (fun _ => [])
noncomputable def WP : Wr Int := ⟨fun n => (n : Int), WPs, cnP⟩
theorem WP_st (l : List (Int × Int)) (hc : Can l) (hn : noSur l) : Utf (WB.st l) (WP.st l) ∧ SetOK l (WP.st l) := by
  have h := set_utf hc hn
  have e : WP.st l = h.choose := by show WPs l = _; unfold WPs; rw [dif_pos h]
  rw [e]
  exact h.choose_spec
theorem flat_utf (s : List RX) (f : RX → List UInt8) (g : RX → List Int) (h : ∀ x ∈ s, Utf (f x) (g x)) : Utf (s.map f).flatten (s.map g).flatten := by
  induction s with
  | nil => exact Utf.nil
  | cons x s ih => rw [List.map_cons, List.map_cons, List.flatten_cons, List.flatten_cons]; exact (h x (by simp)).app (ih fun y hy => h y (List.mem_cons_of_mem _ hy))
theorem tx_utf : ∀ (d : Nat) (t : RX) (lv : Nat), rightB d t = true → noLone d t → Utf (tx WB d lv t) (tx WP d lv t)
  | 0, t, lv, h, _ => by simp [rightB] at h
  | d + 1, .mk k r lo hi z s, lv, h, hl => by
    obtain ⟨ho, hs⟩ := right_own d k r lo hi z s h
    have ih : ∀ x ∈ s, ∀ lv, Utf (tx WB d lv x) (tx WP d lv x) := fun x hx lv => tx_utf d x lv (hs x hx) (hl.2 x hx)
    have hb : Utf (bodyX WB (tx WB d) k r lo hi z s) (bodyX WP (tx WP d) k r lo hi z s) := by
      unfold bodyX
      unfold ownB at ho
      split
      · rename_i k2
        subst k2
        simp at ho
        exact (WP_st r (ho.1.2 ▸ merge_can r) hl.1).1
      · split
        · cases s with
          | nil => exact Utf.nil
          | cons x s =>
            simp only [List.map_cons, barred, List.map_map]
            refine (ih x (by simp) 1).app (flat_utf s _ _ fun y hy => ?_)
            exact Utf.cons1 124 (by decide) (ih y (List.mem_cons_of_mem _ hy) 1)
        · split
          · exact flat_utf s _ _ fun y hy => ih y hy 2
          · split
            · exact Utf.nil
            · split
              · rename_i k5
                subst k5
                simp [hasCnt] at ho
                exact (flat_utf s _ _ fun y hy => ih y hy 3).app (count_utf lo hi z ho.2.1.1 (by omega))
              · unfold sgn
                repeat' split
                · exact Utf.one 94 (by decide)
                · exact Utf.one 36 (by decide)
                · exact Utf.ascii [92, 98] (by decide)
                · exact Utf.ascii [92, 66] (by decide)
    unfold tx
    split
    · exact hb
    · exact Utf.cons1 40 (by decide) (hb.app (Utf.one 41 (by decide)))
end Go.Proofs.YtppilokmgdpnnaaGreatDoor

namespace Go.Proofs.YtppilokmgdpnnaaGreatDoor

/-- Nothing in it is longer than N. -/
inductive BdX (N : Nat) : RX → Prop
  | mk {k : Int} {r : List (Int × Int)} {lo hi : Int} {z : Bool} {s : List RX} (h1 : r.length ≤ N) (h2 : s.length ≤ N) (h3 : ∀ c ∈ s, BdX N c) : BdX N (.mk k r lo hi z s)
theorem BdX.mono {N M : Nat} {v : RX} (h : BdX N v) (hle : N ≤ M) : BdX M v := by
  induction v using RX.ind with
  | h k r lo hi z s ih =>
    cases h with
    | mk h1 h2 h3 => exact .mk (by omega) (by omega) (fun c hc => ih c hc (h3 c hc))
theorem BdX.r {N : Nat} {k : Int} {r : List (Int × Int)} {lo hi : Int} {z : Bool} {s : List RX} (h : BdX N (.mk k r lo hi z s)) : r.length ≤ N := by cases h; assumption
theorem BdX.s {N : Nat} {k : Int} {r : List (Int × Int)} {lo hi : Int} {z : Bool} {s : List RX} (h : BdX N (.mk k r lo hi z s)) : ∀ c ∈ s, BdX N c := by cases h; assumption
theorem BdX.n {N : Nat} {k : Int} {r : List (Int × Int)} {lo hi : Int} {z : Bool} {s : List RX} (h : BdX N (.mk k r lo hi z s)) : s.length ≤ N := by cases h; assumption
end Go.Proofs.YtppilokmgdpnnaaGreatDoor
