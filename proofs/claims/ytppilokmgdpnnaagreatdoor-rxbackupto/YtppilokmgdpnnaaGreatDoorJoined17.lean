/-
  What rx.Turn answers: what is in none of the ranges; the sets by a letter; a set's tree. Conditions: at most 2^30 ranges.
  A block that stays while others are written. No condition.
-/
import Derived.Test.YtppilokmgdpnnaaGreatDoorJoined16
import Derived.Test.YtppilokmgdpnnaaGreatDoorJoined7
namespace Go.Proofs.YtppilokmgdpnnaaGreatDoor
open Go.RowKit
attribute [local go_sem] setCell_drewN alloc_drewN

theorem merge_len (l : List (Int × Int)) : (mergeL l).length ≤ l.length := by
  have put_len : ∀ (out : List (Int × Int)) (st : List (Int × Int) × Bool × (Int × Int)), (putLast (out.foldl stepM st)).length ≤ out.length + st.1.length + (if st.2.1 then 0 else 1) := by
    intro out
    induction out with
    | nil =>
      intro st
      simp only [List.foldl_nil, putLast]
      by_cases h : st.2.1 = true
      · simp [h]
      · simp [h]
    | cons r out ih =>
      intro st
      rw [List.foldl_cons]
      refine Nat.le_trans (ih _) ?_
      unfold stepM
      split
      · simp only [List.length_append, List.length_cons, List.length_nil]; omega
      · split
        · simp only
          split <;> simp <;> omega
        · simp only [List.length_cons]; omega
  have go : ∀ (l out : List (Int × Int)), (l.foldl mergeS out).length ≤ out.length + l.length := by
    intro l
    induction l with
    | nil => intro out; simp
    | cons r l ih =>
      intro out
      rw [List.foldl_cons]
      refine Nat.le_trans (ih _) ?_
      unfold mergeS
      split
      · simp only [List.length_cons]; omega
      · have := put_len out ([], false, cutR r)
        simp only [List.length_nil, Bool.false_eq_true, reduceIte] at this
        simp only [List.length_cons, putR]; omega
  have := go l []
  simp at this
  exact this

set_option maxRecDepth 100000 in
set_option maxHeartbeats 3200000 in
theorem turn_any (l : List (Int × Int)) (v : Value) (w : World) (X : Nat → Prop) (hR : RI w X l v) (hl : l.length ≤ 1073741824) :
    Calls Tryz.prog 29 #[v] w fun r w' => ∃ v', r = .returned v' ∧ OwnR w' w.heap.size v' (turnL l) ∧ Below w.heap.size w w' := by
  have hm := merge_any l v w X hR (by omega)
  have hlen := merge_len l
  have hmok := (merge_can l).ok
  go_enter Tryz.func29, Tryz.ntmps29
  go_wp2_with fail
  refine hm.mono ?_; rintro r w1 ⟨v1, rfl, ho1, hb1⟩
  have HTL : Hid (turnG ((mergeL l).drop 0) 0 = turnL l) := hid_intro rfl
  have hri := ho1.ri (· < w.heap.size) (fun b hb => by omega)
  generalize mergeL l = m at *
  obtain ⟨ao, cap, rfl, hc, hcm, hwf, hlie⟩ := hri
  have HB := hid_intro hb1
  have HO := hid_intro hmok
  clear hm hb1 hmok hR ho1
  have hmI : (m.length : Int) ≤ 1073741824 := by omega
  go_wp2_with fail
  go_loopg [3, 4, 10] m.length (fun me s3 s4 s10 wr => ∃ (k : Nat) (out : List (Int × Int)) (f : Int), k ≤ m.length ∧ me = m.length - k ∧ s10 = .int .i64 (k : Int) ∧ s4 = .int .i64 f ∧ out.length ≤ k ∧ Hid (0 ≤ f ∧ f ≤ 1114112) ∧ OwnR wr w1.heap.size s3 out ∧ Hid (out ++ turnG (m.drop k) f = turnL l) ∧ Below w1.heap.size w1 wr)
  case atStart => exact ⟨0, [], 0, Nat.zero_le _, rfl, rfl, rfl, Nat.le_refl _, ⟨by omega, by omega⟩, OwnR.nil _ _, HTL.out, Below.refl _ _⟩
  case round =>
    clear HTL
    obtain ⟨k, out, f, hk, rfl, rfl, rfl, hok, HF, hown, HG, hb⟩ := hrel
    obtain ⟨f0, f1⟩ := HF.out
    by_cases hlt : k < m.length
    · rcases hlie with hlie | ⟨b, off, rfl, _, hcell⟩
      · subst hlie; simp at hlt
      have q0 := (hb.cell (p := ⟨b, off + k * 2, none⟩) (World.block_lt_of_cell? w1 _ (hcell k hlt).1)).trans (hcell k hlt).1
      have q1 := (hb.cell (p := ⟨b, off + k * 2 + 1, none⟩) (World.block_lt_of_cell? w1 _ (hcell k hlt).2)).trans (hcell k hlt).2
      have hI : (k : Int) < (m.length : Int) := by omega
      have hokx := HO.out _ (ra_mem hlt)
      have hdr := drop_ra m k hlt
      generalize ra m k = rr at *
      obtain ⟨x, y⟩ := rr
      simp only at q0 q1
      obtain ⟨x0, x1, x2⟩ := hokx
      simp only at x0 x1 x2
      rw [hdr] at HG
      have HOWN := hid_intro hown
      have HBR := hid_intro hb
      obtain ⟨W, hW⟩ : ∃ W, wr.alloc (.cells #[.int .i64 x, .int .i64 y] 46) = W := ⟨_, rfl⟩
      have hWb : Below wr.heap.size wr W := hW ▸ vb_a (Below.refl _ _) _
      have kW : Bk W wr.heap.size #[.int .i64 x, .int .i64 y] := hW ▸ Bk.new _ _ _
      obtain ⟨b0, b1⟩ := kW.c2
      have HKW := hid_intro kW
      have HWb := hid_intro hWb
      have hbx : u3.ownBlock ≠ some wr.heap.size := fun e => by have := (hown.lt _ e).2; omega
      have HF2 : Hid (0 ≤ y + 1 ∧ y + 1 ≤ 1114112) := hid_intro (by omega)
      clear hcell hwf hdr hc hcm hown hb HF hWb kW
      by_cases hfx : f < x
      · have HG2 : Hid (out ++ [(f, x - 1)] ++ turnG (m.drop (k + 1)) (y + 1) = turnL l) := hid_intro (by rw [← HG.out, turnG, if_pos hfx, List.append_assoc]; rfl)
        have hsp := span_any f (x - 1) W
        have hi : I64 f ∧ I64 (x - 1) := ⟨I64_of (by omega) (by omega), I64_of (by omega) (by omega)⟩
        clear HG
        go_wp2_with fail
        refine hsp.mono ?_; rintro r w2 ⟨rfl, hb2⟩
        have k2 := HKW.out.bel hb2
        have HK2 := hid_intro k2
        have HB2 := hid_intro hb2
        have HO2 := hid_intro ((HOWN.out.below HWb.out).below hb2)
        have HBW := hid_intro (vb_t (vb_t HBR.out HWb.out) hb2)
        clear k2 hb2 hsp HKW
        go_wp2_with (at_builtin; refine wpList_append_rngW rfl _ _ rfl w1.heap.size _ out f (x - 1) rfl ?cO ?cB ?cS hi _ rfl ?c0 ?c1 ?_)
        case cO => exact HO2.out.below (vb_a (Below.refl _ _) _)
        case c0 => simp [go_sem]
        case c1 => simp [go_sem]
        case cB => have := HBW.out.size; simp; omega
        case cS => omega
        intro v' w3 ho3 hg3
        have hb3 : Below w1.heap.size w1 w3 := (vb_a HBW.out _).grown hg3 (by have := HBW.out.size; simp; omega) (fun j hj => (HOWN.out.lt j hj).1)
        have k3 : Bk w3 wr.heap.size #[.int .i64 x, .int .i64 y] := by
          obtain ⟨T, hT⟩ := HK2.out.al (.cells #[.int .i64 f, .int .i64 (x - 1)] 46)
          exact ⟨T, (hg3.block _ (Array.getElem?_eq_some_iff.1 hT).1 (fun e => hbx e.symm)).trans hT⟩
        obtain ⟨d0, d1⟩ := k3.c2
        have HX : Hid (OwnR w3 w1.heap.size v' (out ++ [(f, x - 1)]) ∧ Below w1.heap.size w1 w3) := ⟨ho3, hb3⟩
        clear ho3 hg3 hb3 k3
        go_wp2_with fail
        go_roundg (m.length - (k + 1))
        case measure => omega
        case rel => exact ⟨k + 1, out ++ [(f, x - 1)], y + 1, by omega, rfl, by simp, rfl, by simp; omega, HF2, HX.out.1, HG2, HX.out.2⟩
      · have HG2 : Hid (out ++ turnG (m.drop (k + 1)) (y + 1) = turnL l) := hid_intro (by rw [← HG.out, turnG, if_neg hfx])
        clear HG
        go_wp2_with fail
        go_roundg (m.length - (k + 1))
        case measure => omega
        case rel => exact ⟨k + 1, out, y + 1, by omega, rfl, by simp, rfl, by omega, HF2, HOWN.out.below HWb.out, HG2, vb_t HBR.out HWb.out⟩
    · obtain rfl : k = m.length := by omega
      have hI : ¬ ((m.length : Int) < (m.length : Int)) := by omega
      rw [List.drop_length] at HG
      have HOWN := hid_intro hown
      have HBR := hid_intro hb
      clear hown hb HF
      by_cases hft : f ≤ 1114111
      · have HE : Hid (turnL l = out ++ [(f, 1114111)]) := hid_intro (by rw [← HG.out, turnG, if_pos hft])
        have hsp := span_any f 1114111 wr
        have hi : I64 f ∧ I64 1114111 := ⟨I64_of (by omega) (by omega), I64_of (by omega) (by omega)⟩
        clear HG
        go_wp2_with fail
        refine hsp.mono ?_; rintro r w2 ⟨rfl, hb2⟩
        have HO2 := hid_intro (HOWN.out.below hb2)
        have HBW := hid_intro (vb_t HBR.out hb2)
        clear hb2 hsp
        go_wp2_with (at_builtin; refine wpList_append_rngW rfl _ _ rfl w1.heap.size _ out f 1114111 rfl ?cO ?cB ?cS hi _ rfl ?c0 ?c1 ?_)
        case cO => exact HO2.out.below (vb_a (Below.refl _ _) _)
        case c0 => simp [go_sem]
        case c1 => simp [go_sem]
        case cB => have := HBW.out.size; simp; omega
        case cS => omega
        intro v' w3 ho3 hg3
        have hb3 : Below w1.heap.size w1 w3 := (vb_a HBW.out _).grown hg3 (by have := HBW.out.size; simp; omega) (fun j hj => (HOWN.out.lt j hj).1)
        rw [← HE.out] at ho3
        go_wp2_with fail
        go_ret
        exact ⟨_, rfl, ho3.mono HB.out.size, vb_t HB.out hb3⟩
      · have HE : Hid (turnL l = out) := hid_intro (by rw [← HG.out, turnG, if_neg hft, List.append_nil])
        clear HG
        go_wp2_with fail
        go_ret
        exact ⟨_, rfl, by rw [HE.out]; exact HOWN.out.mono HB.out.size, vb_t HB.out HBR.out⟩

set_option maxRecDepth 100000 in
set_option maxHeartbeats 800000 in
theorem inLines_any (w : World) : Calls Tryz.prog 19 #[] w fun r w' => ∃ v, r = .returned v ∧ RI w' (· < w.heap.size) inLines v ∧ Below w.heap.size w w' := by
  have h0 := fun w => only_any 10 w
  have h1 := fun w => only_any 13 w
  have h2 := fun w => span_any 8232 8233 w
  go_enter Tryz.func19, Tryz.ntmps19
  go_wp2_with fail
  refine (h0 _).mono ?_; rintro r w0 ⟨rfl, hb0⟩
  go_wp2_with fail
  refine (h1 _).mono ?_; rintro r w1 ⟨rfl, hb1⟩
  go_wp2_with fail
  refine (h2 _).mono ?_; rintro r w2 ⟨rfl, hb2⟩
  have hbb := vb_t (vb_t hb0 hb1) hb2
  have ho : OwnR (w2.alloc (.cells #[.int .i64 10, .int .i64 10, .int .i64 13, .int .i64 13, .int .i64 8232, .int .i64 8233] 46)) w.heap.size (.slice (some ⟨w2.heap.size, 0, none⟩) 3 3) [(10, 10), (13, 13), (8232, 8233)] :=
    OwnR.lit w2 w.heap.size [(10, 10), (13, 13), (8232, 8233)] _ rfl hbb.size (by decide) (by intro r hr; unfold I64; revert r; decide) _ rfl
  have ht := turn_any _ _ _ (fun _ => False) (ho.ri _ (fun _ _ h => h)) (by decide)
  clear h0 h1 h2 hb0 hb1 hb2
  go_wp2_with fail
  refine ht.mono ?_; rintro r w3 ⟨v3, rfl, ho3, hb3⟩
  go_wp2_with fail
  go_ret
  exact ⟨_, rfl, ho3.ri _ (fun b hb => by have := hbb.size; simp at hb; omega), vb_t (vb_a hbb _) hb3⟩
/-- By a letter. -/
def NamedR (x : Option (List (Int × Int))) (w : World) (r : Ending) (w' : World) : Prop :=
  Below w.heap.size w w' ∧ match x with
    | none => r = .returned (.tuple #[.slice none 0 0, .bool false])
    | some s => ∃ v, r = .returned (.tuple #[v, .bool true]) ∧ RI w' (· < w.heap.size) s v
set_option maxRecDepth 100000 in
set_option maxHeartbeats 1600000 in
theorem namedBy_any (c : Int) (w : World) : Calls Tryz.prog 20 #[.int .i64 c] w (NamedR (namedBy c) w) := by
  obtain ⟨P, hP⟩ : ∃ P, P = NamedR (namedBy c) w := ⟨_, rfl⟩
  rw [← hP]
  have HP := hid_intro hP
  clear hP
  by_cases h100 : c = 100
  · subst h100
    have hf := fun w => digits_any w
    have HE : Hid (namedBy 100 = some digits) := hid_intro rfl
    go_enter Tryz.func20, Tryz.ntmps20
    go_wp2_with fail
    refine (hf _).mono ?_; rintro r w1 ⟨v1, rfl, hr1, hb1⟩
    go_wp2_with fail
    rw [HP.out, HE.out]
    exact ⟨hb1, _, rfl, hr1⟩
  have b100 : (c == 100) = false := by rw [beq_eq_false_iff_ne]; exact h100
  by_cases h119 : c = 119
  · subst h119
    have hf := fun w => wordLetters_any w
    have HE : Hid (namedBy 119 = some wordLetters) := hid_intro rfl
    go_enter Tryz.func20, Tryz.ntmps20
    go_wp2_with fail
    refine (hf _).mono ?_; rintro r w1 ⟨v1, rfl, hr1, hb1⟩
    go_wp2_with fail
    rw [HP.out, HE.out]
    exact ⟨hb1, _, rfl, hr1⟩
  have b119 : (c == 119) = false := by rw [beq_eq_false_iff_ne]; exact h119
  by_cases h115 : c = 115
  · subst h115
    have hf := fun w => spaces_any w
    have HE : Hid (namedBy 115 = some spacesL) := hid_intro rfl
    go_enter Tryz.func20, Tryz.ntmps20
    go_wp2_with fail
    refine (hf _).mono ?_; rintro r w1 ⟨v1, rfl, hr1, hb1⟩
    go_wp2_with fail
    rw [HP.out, HE.out]
    exact ⟨hb1, _, rfl, hr1⟩
  have b115 : (c == 115) = false := by rw [beq_eq_false_iff_ne]; exact h115
  by_cases h68 : c = 68
  · subst h68
    have hf := fun w => digits_any w
    have HE : Hid (namedBy 68 = some (turnL digits)) := hid_intro rfl
    go_enter Tryz.func20, Tryz.ntmps20
    go_wp2_with fail
    refine (hf _).mono ?_; rintro r w1 ⟨v1, rfl, hr1, hb1⟩
    have ht := turn_any digits v1 w1 _ hr1 (by decide)
    go_wp2_with fail
    refine ht.mono ?_; rintro r w2 ⟨v2, rfl, ho2, hb2⟩
    go_wp2_with fail
    rw [HP.out, HE.out]
    exact ⟨vb_t hb1 hb2, _, rfl, ho2.ri _ (fun b hb => by have := hb1.size; omega)⟩
  have b68 : (c == 68) = false := by rw [beq_eq_false_iff_ne]; exact h68
  by_cases h87 : c = 87
  · subst h87
    have hf := fun w => wordLetters_any w
    have HE : Hid (namedBy 87 = some (turnL wordLetters)) := hid_intro rfl
    go_enter Tryz.func20, Tryz.ntmps20
    go_wp2_with fail
    refine (hf _).mono ?_; rintro r w1 ⟨v1, rfl, hr1, hb1⟩
    have ht := turn_any wordLetters v1 w1 _ hr1 (by decide)
    go_wp2_with fail
    refine ht.mono ?_; rintro r w2 ⟨v2, rfl, ho2, hb2⟩
    go_wp2_with fail
    rw [HP.out, HE.out]
    exact ⟨vb_t hb1 hb2, _, rfl, ho2.ri _ (fun b hb => by have := hb1.size; omega)⟩
  have b87 : (c == 87) = false := by rw [beq_eq_false_iff_ne]; exact h87
  by_cases h83 : c = 83
  · subst h83
    have hf := fun w => spaces_any w
    have HE : Hid (namedBy 83 = some (turnL spacesL)) := hid_intro rfl
    go_enter Tryz.func20, Tryz.ntmps20
    go_wp2_with fail
    refine (hf _).mono ?_; rintro r w1 ⟨v1, rfl, hr1, hb1⟩
    have ht := turn_any spacesL v1 w1 _ hr1 (by decide)
    go_wp2_with fail
    refine ht.mono ?_; rintro r w2 ⟨v2, rfl, ho2, hb2⟩
    go_wp2_with fail
    rw [HP.out, HE.out]
    exact ⟨vb_t hb1 hb2, _, rfl, ho2.ri _ (fun b hb => by have := hb1.size; omega)⟩
  have b83 : (c == 83) = false := by rw [beq_eq_false_iff_ne]; exact h83
  have HE : Hid (namedBy c = none) := hid_intro (by unfold namedBy; rw [if_neg h100, if_neg h119, if_neg h115, if_neg h68, if_neg h87, if_neg h83])
  clear h100 h119 h115 h68 h87 h83
  go_enter Tryz.func20, Tryz.ntmps20
  go_wp2_with fail
  rw [HP.out, HE.out]
  exact ⟨Below.refl _ _, rfl⟩

theorem xi_set (w : World) (X : Nat → Prop) (l : List (Int × Int)) (v : Value) (h : RI w X l v) : XI w X (.mk 2 l 0 0 false []) (fun i => [Value.int .i64 2, v, .int .i64 0, .int .i64 0, .bool false, .slice none 0 0].getD i .nilIface) :=
  XI.mk none 0 (fun _ _ => .nilIface) rfl h rfl rfl rfl rfl ⟨Nat.le_refl _, by unfold maxLen; omega⟩ ⟨I64_of (by omega) (by omega), I64_of (by omega) (by omega), I64_of (by omega) (by omega)⟩ (Or.inl rfl) (fun i hi => by simp at hi)
set_option maxRecDepth 100000 in
set_option maxHeartbeats 800000 in
theorem setOf_any (l : List (Int × Int)) (v : Value) (w : World) (X : Nat → Prop) (hR : RI w X l v) (hl : l.length ≤ 1073741824) :
    Calls Tryz.prog 73 #[v] w fun r w' => ∃ f, r = .returned (xa f) ∧ XI w' (· < w.heap.size) (setX l) f ∧ Below w.heap.size w w' := by
  have hm := fun w (hR : RI w X l v) => merge_any l v w X hR (by omega)
  go_enter Tryz.func73, Tryz.ntmps73
  go_wp2_with fail
  refine (hm _ (hR.kept (vb_a (Below.refl _ _) _))).mono ?_; rintro r w1 ⟨v1, rfl, ho1, hb1⟩
  have k := Bk.bel (Bk.new _ _ _) hb1
  obtain ⟨c0, c1, c2, c3, c4, c5⟩ := k.c6
  obtain ⟨z0, z1, z2, z3, z4, z5⟩ := k.z6
  have HB := hid_intro (vb_t (vb_a (Below.refl _ _) _) hb1)
  have HO := hid_intro ho1
  obtain ⟨ao1, cap1, hs1⟩ := ho1.shape
  generalize hn1 : (mergeL l).length = n1 at hs1
  subst hs1
  clear k hm ho1 hR hb1
  go_wp2_with fail
  refine bodyPost_ret (v := .agg #[.int .i64 2, .slice ao1 n1 cap1, .int .i64 0, .int .i64 0, .bool false, .slice none 0 0]) (by simp [results, Tryz.results73, go_sem, c0, c1, c2, c3, c4, c5]) rfl ?_
  refine ⟨_, rfl, xi_set _ _ _ _ ?_, ?_⟩
  · have hlt : ∀ k, (Value.slice ao1 n1 cap1).ownBlock = some k → k ≠ w.heap.size := fun k hk e => by have := (HO.out.lt k hk).1; simp at this; omega
    refine OwnR.ri (B := w.heap.size + 1) ?_ _ (fun b hb => by omega)
    have : OwnR w1 (w.heap.size + 1) (Value.slice ao1 n1 cap1) (mergeL l) := by have := HO.out; simpa using this
    have hne : (Value.slice ao1 n1 cap1).ownBlock ≠ some w.heap.size := fun e => hlt _ e rfl
    with_reducible repeat (first | exact this | refine OwnR.away ?_ hne _)
  · with_reducible repeat (first | exact HB.out | refine vb_s ?_ (Nat.le_refl _) _)

/-- A mark's two cells. -/
def mkV (v : Value) (b : Bool) : Value := .agg #[v, .bool b]
set_option maxRecDepth 100000 in
set_option maxHeartbeats 800000 in
theorem singleR_any (p : Int) (hp : I64 p) (w : World) : Calls Tryz.prog 98 #[.int .i64 p] w fun r w' => ∃ v, r = .returned (mkV v false) ∧ RI w' (· < w.heap.size) [(p, p)] v ∧ Below w.heap.size w w' := by
  have ho := fun w => only_any p w
  go_enter Tryz.func98, Tryz.ntmps98
  go_wp2_with fail
  refine (ho _).mono ?_; rintro r w1 ⟨rfl, hb1⟩
  have k := Bk.bel (Bk.new _ _ _) hb1
  obtain ⟨c0, c1⟩ := (k.al (.cells #[.int .i64 p, .int .i64 p] 46)).c2
  obtain ⟨z0, z1⟩ := (k.al (.cells #[.int .i64 p, .int .i64 p] 46)).z2
  have hbb := vb_t (vb_a (Below.refl _ _) _) hb1
  have hlt : w.heap.size < w1.heap.size := Nat.lt_of_lt_of_le (by simp) hb1.size
  have hpp : ∀ r ∈ [(p, p)], I64 r.1 ∧ I64 r.2 := fun r hr => by
    obtain rfl : r = (p, p) := by simpa using hr
    exact ⟨hp, hp⟩
  have hli := OwnR.lit w1 (w.heap.size + 1) [(p, p)] #[.int .i64 p, .int .i64 p] rfl (by omega) (by simp) hpp 1 rfl
  have HB := hid_intro hbb
  have HL := hid_intro hli
  clear k ho hb1 hbb hli
  obtain ⟨W, hW⟩ : ∃ W, w1.alloc (.cells #[.int .i64 p, .int .i64 p] 46) = W := ⟨_, rfl⟩
  have HW := hid_intro hW
  rw [hW] at c0 c1 z0 z1 HL
  go_wp2_with fail
  refine bodyPost_ret (v := .agg #[.slice (some ⟨w1.heap.size, 0, none⟩) 1 1, .bool false]) (by simp [results, Tryz.results98, go_sem, c0, c1]) rfl ?_
  refine ⟨_, rfl, ?_, ?_⟩
  · refine OwnR.ri (B := w.heap.size + 1) ?_ _ (fun b hb => by omega)
    have hne : (Value.slice (some ⟨w1.heap.size, 0, none⟩) 1 1).ownBlock ≠ some w.heap.size := by simp [Value.ownBlock]; omega
    with_reducible repeat (first | exact HL.out | refine OwnR.away ?_ hne _)
  · rw [← HW.out]
    with_reducible repeat (first | exact HB.out | refine vb_s ?_ (Nat.le_refl _) _ | refine vb_a ?_ _)
end Go.Proofs.YtppilokmgdpnnaaGreatDoor

namespace Go.Proofs.YtppilokmgdpnnaaGreatDoor
theorem Bk.but {w w' : World} {b : Nat} {cs : Array Value} {X : Nat → Prop} (h : Bk w b cs) (hb : But X w w') (hx : ¬ X b) : Bk w' b cs := by
  have hl := h.lt
  obtain ⟨T, h⟩ := h
  exact ⟨T, by rw [hb.block b hl hx]; exact h⟩
end Go.Proofs.YtppilokmgdpnnaaGreatDoor
