/-
  What nat.divided answers of a number that is less, and of a divisor of one limb; what nat.Div answers, if nat.divided does; and that heads holds. Conditions: the numbers have at most 2^45 limbs.
-/
import Derived.Test.YtpfbmkgknmlebaaGreatDoorA9
import Derived.Laws.AppendOwnNone
namespace Go.Proofs.YtpfbmkgknmlebaaGreatDoor
open Go.RowKit

theorem add_at (b off j : Nat) : (⟨b, off, none⟩ : Addr).add j = ⟨b, off + j, none⟩ := by
  simp only [Addr.add]; split
  · simp_all
  · rfl
/-- 'append(x, y...)', x of the call's own, y a slice of limbs. -/
theorem wpList_append_row {w : World} {ops : Array Oper} {rest : List Oper} {o : Oper} {a : Act} {Q : Exit → Act → World → Prop} (hgd : o.guard = none) (s x : Operand)
    (ho : o.op = .call { callee := .builtin .append, args := #[s, x], argTypes := #[72, 72] }) (base : Nat) (v : Value) (n : Nat) (xs : List Value) (hs : a.eval s = v) (hown : w.ownsRow base 76 1 v n xs)
    (v1 : Value) (m : Nat) (g : Nat → Int) (hx : a.eval x = v1) (hR : Row w v1 m g) (hb : (n + m) * 4 ≤ 140737488355328) (hbase : base ≤ w.heap.size)
    (h : ∀ v' w', w'.ownsRow base 76 1 v' (n + m) (xs ++ vals m g) → w.grownBy w' v.ownBlock → wpList Tryz.prog ops Q rest (a.put o.dst v') w') : wpList Tryz.prog ops Q (o :: rest) a w := by
  obtain ⟨i0, hi, hz0, hz1, hz2⟩ := info_parts info46
  rcases hR with ⟨rfl, ad, cap, rfl, hn⟩ | ⟨b, off, cap, rfl, hc, hm, hL⟩
  · rcases ad with _ | ad
    · have hc := hn rfl
      subst hc
      refine wpList_append_own_none hgd s x 72 ho base 76 i0 1 Tryz.underlying72 hi v n xs hs hown hx (h v w (by simpa [vals] using hown) ?_)
      exact ⟨rfl, rfl, rfl, Nat.le_refl _, fun _ _ _ => rfl⟩
    · refine wpList_append_own _ hgd s x 72 ho base 76 i0 (.int .u32 0) 1 4 Tryz.underlying72 hi hz0 hz1 hz2 rfl (by decide) v n xs hs hown ad 0 cap [] hx rfl (fun j u hj => by simp at hj) (fun u hu => by simp at hu) (by unfold maxLen; omega) (by omega) hbase ?_
      intro v' w' h1 h2 _
      exact h v' w' (by simpa [vals] using h1) h2
  · refine wpList_append_own _ hgd s x 72 ho base 76 i0 (.int .u32 0) 1 4 Tryz.underlying72 hi hz0 hz1 hz2 rfl (by decide) v n xs hs hown ⟨b, off, none⟩ m cap (vals m g) hx (by rw [vals_length]; omega) (fun j u hj => ?_) (fun u hu => ?_) (by unfold maxLen; omega) (by omega) hbase ?_
    · have hlt : j < m := by have := (List.getElem?_eq_some_iff.1 hj).1; rwa [vals_length] at this
      rw [vals_get _ _ _ hlt] at hj
      rw [add_at, hL.cell j hlt, hj]
    · simp only [vals, List.mem_map] at hu
      obtain ⟨i, _, rfl⟩ := hu
      rfl
    · intro v' w' h1 h2 _
      exact h v' w' h1 h2
theorem row_own {w : World} {B : Nat} {v : Value} {len : Nat} {f : Nat → Int} (lo : ∀ i, 0 ≤ f i) (hi : ∀ i, f i < 4294967296) (h : w.ownsRow B 76 1 v len (vals len f)) : Row w v len f := by
  rcases h.2 with ⟨rfl, h0⟩ | ⟨g, cap, cur, rfl, hb, hg, hc, hm, hs, ht⟩
  · exact .inl ⟨h0, none, 0, rfl, fun _ => rfl⟩
  · refine .inr ⟨g, 0, cap, rfl, hc, hm, ⟨fun i hi => ?_, lo, hi⟩⟩
    rw [Nat.zero_add, h.cellAt i (by omega), vals_get _ _ _ hi]
/-- A row can be taken to have limbs in bounds everywhere. -/
theorem Row.bounded {w : World} {v : Value} {n : Nat} {f : Nat → Int} (h : Row w v n f) : ∃ f', Row w v n f' ∧ (∀ i, i < n → f' i = f i) ∧ (∀ i, 0 ≤ f' i) ∧ (∀ i, f' i < 4294967296) := by
  rcases h with ⟨rfl, a, cap, rfl, hn⟩ | ⟨b, off, cap, rfl, hc, hm, hL⟩
  · exact ⟨fun _ => 0, .inl ⟨rfl, a, cap, rfl, hn⟩, fun i hi => absurd hi (by omega), fun _ => (by decide : (0 : Int) ≤ 0), fun _ => (by decide : (0 : Int) < 4294967296)⟩
  · exact ⟨f, .inr ⟨b, off, cap, rfl, hc, hm, hL⟩, fun _ _ => rfl, hL.lo, hL.hi⟩

/-- Quotient and rest. -/
def Divides (w : World) (rq rr : Value) (A B : Int) : Prop := ∃ Q R, Num w rq Q ∧ Num w rr R ∧ A = Q * B + R ∧ 0 ≤ R ∧ R < B

set_option maxHeartbeats 400000 in
theorem divided_less (v0 v1 : Value) (n m : Nat) (f g : Nat → Int) (w : World) (h0 : Row w v0 n f) (h1 : Row w v1 m g) (hf : Can n f) (hg : Can m g) (hn : n ≤ 35184372088832) (hlt : val f n < val g m) :
    Calls Tryz.prog 86 #[v0, v1] w fun e w' => ∃ rq, ∃ rr, e = .returned (.tuple #[rq, rr]) ∧ Divides w' rq rr (val f n) (val g m) ∧ Below w.heap.size w w' := by
  have hc := compared_any v0 v1 n m f g w h0 h1 hf hg
  have hl : decide (cmpI (val f n) (val g m) < 0) = true := by rw [cmpI_lt]; exact decide_eq_true hlt
  obtain ⟨f', h0', he, lo, up⟩ := h0.bounded
  have hf' : Can n f' := ⟨fun i hi => by rw [he i hi]; exact hf.1 i hi, fun h => by rw [he (n - 1) (by omega)]; exact hf.2 h⟩
  have ev : val f' n = val f n := val_congr he
  have pos := val_nonneg hf.1
  obtain ⟨a, cap, rfl, _⟩ := h0.shape
  obtain ⟨a', cap', rfl, _⟩ := h1.shape
  clear h0 h1 hf hg he
  generalize val g m = B at *
  generalize val f n = A at *
  generalize cmpI A B = C at *
  go_enter Tryz.func86, Tryz.ntmps86
  go_wp2_with fail
  refine hc.mono ?_
  rintro e w' ⟨rfl, q, rfl⟩
  have hA : Row ((w.drewN q).alloc (.cells #[] 76)) (.slice a n cap) n f' := (h0'.drewN q).alloc _
  have hbl : Below w.heap.size w ((w.drewN q).alloc (.cells #[] 76)) := (below_drewN (Below.refl _ _) q).alloc (by simp) _
  have hok : ((w.drewN q).alloc (.cells #[] 76)).ownsRow w.heap.size 76 1 (.slice (some ⟨w.heap.size, 0, none⟩) 0 0) 0 [] := World.ownsRow_made (w.drewN q) #[] 0 (by simp) (by simp [maxLen]) rfl
  clear hc h0'
  go_wp2_with (at_builtin; refine wpList_append_row rfl (.tmp 11) (.tmp 12) rfl w.heap.size _ _ _ rfl hok _ n f' rfl hA ?_ ?_ ?_)
  · omega
  · simp
  · intro v' w2 hown2 hgrow2
    have hb2 : Below w.heap.size w w2 := hbl.grown hgrow2 (by simp) (fun j hj => (hok.lt j hj).1)
    have hr : Num w2 v' A := ⟨n, f', row_own lo up (by simpa using hown2), hf', ev⟩
    clear hA hok hbl hgrow2 hown2
    go_wp2
    go_ret2
    exact ⟨_, _, rfl, ⟨0, A, num_nil w2, hr, by omega, by omega, hlt⟩, hb2⟩

set_option maxHeartbeats 400000 in
theorem divided_limb (v0 v1 : Value) (n : Nat) (f g : Nat → Int) (w : World) (h0 : Row w v0 n f) (h1 : Row w v1 1 g) (hf : Can n f) (hg : Can 1 g) (hn : n ≤ 35184372088832) (hle : val g 1 ≤ val f n) :
    Calls Tryz.prog 86 #[v0, v1] w fun e w' => ∃ rq, ∃ rr, e = .returned (.tuple #[rq, rr]) ∧ Divides w' rq rr (val f n) (val g 1) ∧ Below w.heap.size w w' := by
  have hc := compared_any v0 v1 n 1 f g w h0 h1 hf hg
  have hl : decide (cmpI (val f n) (val g 1) < 0) = false := by rw [cmpI_lt]; exact decide_eq_false (by omega)
  have eg : val g 1 = g 0 := by simp [val, pw_zero]
  have bg := hg.1 0 (by omega)
  have gz := hg.2 (by omega)
  simp only [Nat.sub_self] at gz
  have hd := fun q => byLimb_any v0 n f (g 0) (w.drewN q) (h0.drewN q) hf.1 (by omega) bg.2 (by omega)
  rw [eg] at hc hl ⊢
  obtain ⟨a, cap, rfl, _⟩ := h0.shape
  obtain ⟨b', off', cap', rfl, _, _, hL'⟩ := h1.lies (by omega)
  have c1 := hL'.cell 0 (by omega)
  rw [Nat.add_zero] at c1
  clear h0 h1 hf hg hL' hle eg
  generalize g 0 = y at *
  generalize cmpI (val f n) y = C at *
  go_enter Tryz.func86, Tryz.ntmps86
  go_wp2_with fail
  refine hc.mono ?_
  rintro e w' ⟨rfl, q, rfl⟩
  have hd := hd q
  go_wp2_with fail
  refine hd.mono ?_
  rintro e w' ⟨rq, rr, rfl, hr, hb⟩
  clear hd hc
  go_wp2
  go_ret2
  exact ⟨_, _, rfl, hr, (below_drewN (Below.refl _ _) q).trans hb⟩

set_option maxHeartbeats 400000 in
theorem div_ok (v0 v1 : Value) (A B : Int) (n m : Nat) (f g : Nat → Int) (w : World) (h0 : Row w v0 n f) (h1 : Row w v1 m g) (hf : Can n f) (hg : Can m g) (h0m : 0 < m)
    (hd0 : ∀ w, Row w v0 n f → Row w v1 m g → Calls Tryz.prog 86 #[v0, v1] w fun e w' => ∃ rq, ∃ rr, e = .returned (.tuple #[rq, rr]) ∧ Divides w' rq rr A B ∧ Below w.heap.size w w') :
    Calls Tryz.prog 61 #[v0, v1] w fun e w' => ∃ rq, ∃ rr, e = .returned (.tuple #[rq, rr, .int .i64 0]) ∧ Divides w' rq rr A B ∧ Below w.heap.size w w' := by
  have hk := (checked_new v0 v1 n m f g w h0 h1).1 hf hg
  have hs := hd0 _ (h0.alloc (.cells #[v0, v1] 72)) (h1.alloc _)
  obtain ⟨a, cap, rfl, _⟩ := h0.shape
  obtain ⟨a', cap', rfl, _⟩ := h1.shape
  have hI : ((m : Int) == 0) = false := beq_eq_false_iff_ne.2 (by omega)
  clear h0 h1 hf hg hd0
  go_enter Tryz.func61, Tryz.ntmps61
  go_wp2_with fail
  refine hk.mono ?_
  rintro e w' ⟨rfl, rfl⟩
  go_wp2_with fail
  refine hs.mono ?_
  rintro e w' ⟨rq, rr, rfl, hr, hbl⟩
  clear hs hk
  go_wp2
  go_ret3
  exact ⟨_, _, rfl, hr, below_from_alloc hbl⟩

set_option maxHeartbeats 400000 in
theorem div_zero (v0 v1 : Value) (n : Nat) (f g : Nat → Int) (w : World) (h0 : Row w v0 n f) (h1 : Row w v1 0 g) (hf : Can n f) :
    Calls Tryz.prog 61 #[v0, v1] w fun e w' => e = .returned (.tuple #[.slice none 0 0, .slice none 0 0, .int .i64 20]) ∧ Below w.heap.size w w' := by
  have hk := (checked_new v0 v1 n 0 f g w h0 h1).1 hf ⟨fun i hi => absurd hi (by omega), fun h => absurd h (by omega)⟩
  obtain ⟨a, cap, rfl, _⟩ := h0.shape
  obtain ⟨a', cap', rfl, _⟩ := h1.shape
  have hb : Below w.heap.size w (w.alloc (.cells #[.slice a n cap, .slice a' 0 cap'] 72)) := one_below w _
  clear h0 h1 hf
  go_enter Tryz.func61, Tryz.ntmps61
  go_wp2_with fail
  refine hk.mono ?_
  rintro e w' ⟨rfl, rfl⟩
  go_wp2
  go_ret3
  exact ⟨rfl, hb⟩
end Go.Proofs.YtpfbmkgknmlebaaGreatDoor
