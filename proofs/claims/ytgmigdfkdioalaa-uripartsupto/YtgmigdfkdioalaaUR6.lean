/-
  What ref8.Parse answers. Conditions: at most 2^60 bytes.
-/
import Derived.Test.YtgmigdfkdioalaaUR3
namespace Go.Proofs.Ytgmigdfkdioalaa
open Go.RowKit
attribute [local go_sem] setCell_drewN alloc_drewN

theorem plain_congr {f g : Int → Bool} : ∀ (n : Nat) (l : List UInt8), l.length ≤ n → (∀ c ∈ l, f (c.toNat : Int) = g (c.toNat : Int)) → plainL f l = plainL g l := by
  intro n
  induction n with
  | zero =>
    intro l hl _
    have : l = [] := List.length_eq_zero_iff.1 (by omega)
    subst this
    rfl
  | succ n ih =>
    intro l hl h
    cases l with
    | nil => rfl
    | cons c t =>
      have hc := h c (List.mem_cons_self ..)
      have ht : ∀ x ∈ t, f (x.toNat : Int) = g (x.toNat : Int) := fun x hx => h x (List.mem_cons_of_mem _ hx)
      simp only [List.length_cons] at hl
      cases hf : f (c.toNat : Int)
      · rw [hf] at hc
        rcases t with _ | ⟨a, _ | ⟨b, r⟩⟩
        · rw [plainL_sh hf (by simp), plainL_sh hc.symm (by simp)]
        · rw [plainL_sh hf (by simp), plainL_sh hc.symm (by simp)]
        · rw [plainL_pc _ _ _ hf, plainL_pc _ _ _ hc.symm, ih r (by simp only [List.length_cons] at hl; omega) (fun x hx => ht x (List.mem_cons_of_mem _ (List.mem_cons_of_mem _ hx)))]
      · rw [hf] at hc
        rw [plainL_ok _ hf, plainL_ok _ hc.symm, ih t (by omega) ht]
theorem sg_split (c : UInt8) : memB sg19 (c.toNat : Int) = (memB sg17 (c.toNat : Int) || (c == 47) || (c == 63)) := by
  rw [memB_mem, memB_mem]
  have e : sg19 = sg17 ++ [47, 63] := rfl
  rw [e, List.contains_append, Bool.or_assoc]
  congr 1
  rw [Bool.eq_iff_iff, List.contains_iff_mem]
  simp only [List.mem_cons, List.not_mem_nil, or_false, Bool.or_eq_true, beq_iff_eq]
theorem memB_cons (c x : UInt8) (l : List UInt8) : memB (x :: l) (c.toNat : Int) = ((c == x) || memB l (c.toNat : Int)) := by
  rw [memB_mem, memB_mem, Bool.eq_iff_iff]
  simp
theorem memB_nil (c : Int) : memB [] c = false := rfl
/-- Are the parts well written, by the reference? -/
def rwellL (u : Ur) : Bool := schOk u.sch && plainL (rOk [91, 93]) u.auth && plainL (rOk [47]) u.path && plainL (rOk [47, 63]) u.q && plainL (rOk [47, 63]) u.frag && !(u.sch.isEmpty && !u.hA && decide (ix u.path 58 < ix u.path 47))
theorem ok_q (l : List UInt8) : plainL (rOk [47, 63]) l = plainL (pOk []) l := by
  refine plain_congr _ l (Nat.le_refl _) fun c _ => ?_
  unfold rOk pOk
  rw [sg_split, memB_cons, memB_cons, memB_nil]
  cases isL (c.toNat : Int) <;> cases isD (c.toNat : Int) <;> cases memB sg17 (c.toNat : Int) <;> cases (c == 47) <;> cases (c == 63) <;> rfl
theorem ok_p {l : List UInt8} (h : ¬ (63 : UInt8) ∈ l) : plainL (rOk [47]) l = plainL (pOk []) l := by
  refine plain_congr _ l (Nat.le_refl _) fun c hc => ?_
  have h63 : (c == 63) = false := by rw [beq_eq_false_iff_ne]; intro e; exact h (by rw [← e]; exact hc)
  unfold rOk pOk
  rw [sg_split, memB_cons, memB_nil, h63]
  cases isL (c.toNat : Int) <;> cases isD (c.toNat : Int) <;> cases memB sg17 (c.toNat : Int) <;> cases (c == 47) <;> rfl
theorem ok_a {l : List UInt8} (h : ¬ (63 : UInt8) ∈ l) (h2 : ¬ (47 : UInt8) ∈ l) : plainL (rOk [91, 93]) l = plainL (pOk [91, 93]) l := by
  refine plain_congr _ l (Nat.le_refl _) fun c hc => ?_
  have h63 : (c == 63) = false := by rw [beq_eq_false_iff_ne]; intro e; exact h (by rw [← e]; exact hc)
  have h47 : (c == 47) = false := by rw [beq_eq_false_iff_ne]; intro e; exact h2 (by rw [← e]; exact hc)
  unfold rOk pOk
  rw [sg_split, h63, h47, Bool.or_false, Bool.or_false]
theorem looks_ix (p : List UInt8) : (p.take (ix p 47)).contains 58 = decide (ix p 58 < ix p 47) := by
  rw [Bool.eq_iff_iff, List.contains_iff_mem, decide_eq_true_eq]
  constructor
  · intro h
    obtain ⟨j, hj, e⟩ := List.getElem_of_mem h
    rw [List.length_take] at hj
    rw [List.getElem_take] at e
    rcases Nat.lt_or_ge (ix p 58) (ix p 47) with h1 | h1
    · exact h1
    · exact absurd (by rw [List.getElem?_eq_getElem (by omega), e]) (ix_no p 58 j (by omega))
  · intro h
    have h1 := ix_le p 47
    have h2 := ix_at p 58 (by omega)
    have : (p.take (ix p 47))[ix p 58]? = some 58 := by rw [List.getElem?_take, if_pos h]; exact h2
    exact List.mem_of_getElem? this
theorem not63 (l : List UInt8) : ¬ (63 : UInt8) ∈ (partL l).path ∧ ¬ (63 : UInt8) ∈ (partL l).auth := by
  have h0 : ¬ (63 : UInt8) ∈ (cutL 63 (cutL 35 l).1).1 := ix_ahead _ _
  have h1 : ¬ (63 : UInt8) ∈ (schL (cutL 63 (cutL 35 l).1).1).2 := by
    intro h
    apply h0
    generalize (cutL 63 (cutL 35 l).1).1 = y at *
    unfold schL at h
    split at h
    · exact List.mem_of_mem_drop h
    · exact h
  have key : ∀ z : List UInt8, ¬ (63 : UInt8) ∈ z → ¬ (63 : UInt8) ∈ (authL z).2.1 ∧ ¬ (63 : UInt8) ∈ (authL z).1 := by
    intro z hz
    unfold authL
    split
    · exact ⟨fun h => hz (List.mem_of_mem_drop (List.mem_of_mem_drop h)), fun h => hz (List.mem_of_mem_drop (List.mem_of_mem_take h))⟩
    · exact ⟨hz, by simp⟩
  exact key _ h1
theorem not47 (l : List UInt8) : ¬ (47 : UInt8) ∈ (partL l).auth := by
  show ¬ (47 : UInt8) ∈ (authL _).1
  unfold authL
  split
  · exact ix_ahead _ _
  · simp
theorem rwell_eq (l : List UInt8) : rwellL (partL l) = wellL (partL l) := by
  unfold rwellL wellL looksL
  rw [ok_q, ok_q, ok_p (not63 l).1, ok_a (not63 l).2 (not47 l), looks_ix]
  cases (partL l).sch.isEmpty <;> cases (partL l).hA <;> rfl

set_option maxRecDepth 100000 in
set_option maxHeartbeats 3200000 in
theorem rparse_any (l : List UInt8) (w : World) (hs : l.length ≤ 1152921504606846976) :
    Calls Try.prog 10 #[.string (bs l)] w fun e w' => e = .returned (parV (parseL l)) ∧ Below w.heap.size w w' := by
  have f1 := fun w' => rcut_any l w' hs
  have hu := partL_len l
  have HP : Hid (∀ b, rwellL (partL l) = b → parseL l = if b then some (partL l) else none) := fun b hb => by rw [← hb, rwell_eq]; rfl
  obtain ⟨⟨sch, auth, path, q, frag, hA, hQ, hF⟩, hp⟩ : ∃ u, u = partL l := ⟨_, rfl⟩
  rw [← hp] at HP hu
  simp only [← hp, uV, uc] at f1
  unfold Ul at hu
  simp only at hu
  have g1 := fun w' => rscheme_any (bs sch) w' (by rw [bs_size]; omega)
  have g2 := fun w' => rbytes_any (bs auth) ⟨#[91, 93]⟩ w' (by rw [bs_size]; omega) (by decide) (by decide +kernel)
  have g3 := fun w' => rbytes_any (bs path) ⟨#[47]⟩ w' (by rw [bs_size]; omega) (by decide) (by decide +kernel)
  have g4 := fun w' => rbytes_any (bs q) ⟨#[47, 63]⟩ w' (by rw [bs_size]; omega) (by decide) (by decide +kernel)
  have g5 := fun w' => rbytes_any (bs frag) ⟨#[47, 63]⟩ w' (by rw [bs_size]; omega) (by decide) (by decide +kernel)
  have j1 := fun w' => ri path 58 58 w' rfl (by omega)
  have j2 := fun w' => ri path 47 47 w' rfl (by omega)
  have E1 := emp_bs sch
  simp only [rwellL] at HP
  simp only [bs_list] at g1 g2 g3 g4 g5
  generalize schOk sch = b1 at *
  generalize plainL (rOk [91, 93]) auth = b2 at *
  generalize plainL (rOk [47]) path = b3 at *
  generalize plainL (rOk [47, 63]) q = b4 at *
  generalize plainL (rOk [47, 63]) frag = b5 at *
  generalize sch.isEmpty = se at *
  clear hp hu hs
  cases b1
  · go_enter Try.func10, Try.ntmps10
    go_wp2_with fail
    refine (f1 _).mono ?_
    rintro e w1 ⟨rfl, hb1⟩
    obtain ⟨W, hW⟩ : ∃ W, w1.alloc (.cells #[.string (bs sch), .string (bs auth), .string (bs path), .string (bs q), .string (bs frag), .bool hA, .bool hQ, .bool hF] 23) = W := ⟨_, rfl⟩
    have k0 : Bk W w.heap.size #[.string ⟨#[]⟩, .string ⟨#[]⟩, .string ⟨#[]⟩, .string ⟨#[]⟩, .string ⟨#[]⟩, .bool false, .bool false, .bool false] := hW ▸ (Bk.bel (Bk.new _ _ _) hb1).al _
    have k1 : Bk W w1.heap.size #[.string (bs sch), .string (bs auth), .string (bs path), .string (bs q), .string (bs frag), .bool hA, .bool hQ, .bool hF] := hW ▸ Bk.new _ _ _
    have hbel : Below w.heap.size w W := hW ▸ bl_a (bl_t (bl_a (Below.refl _ _) _) hb1) _
    clear hb1 f1
    obtain ⟨x0, x1, x2, x3, x4, x5, x6, x7⟩ := k1.c8
    obtain ⟨p0, p1, p2, p3, p4, p5, p6, p7⟩ := k0.c8
    obtain ⟨z0, z1, z2, z3, z4, z5, z6, z7⟩ := k0.z8
    clear k0 k1
    go_wp2_with (go_at_call 27; refine (g1 _).mono ?_; rintro e w' ⟨rfl, rfl⟩)
    try simp only [Exit.inBlock, Exit.then]
    refine bodyPost_ret (by simp [results, Try.results10, go_sem, p0, p1, p2, p3, p4, p5, p6, p7]; try rfl) rfl ?_
    exact ⟨by rw [HP.out false rfl]; rfl, by with_reducible repeat (first | exact hbel | refine bl_d ?_ | refine bl_n ?_ _ | refine bl_s ?_ (Nat.le_refl _) _)⟩
  cases b2
  · go_enter Try.func10, Try.ntmps10
    go_wp2_with fail
    refine (f1 _).mono ?_
    rintro e w1 ⟨rfl, hb1⟩
    obtain ⟨W, hW⟩ : ∃ W, w1.alloc (.cells #[.string (bs sch), .string (bs auth), .string (bs path), .string (bs q), .string (bs frag), .bool hA, .bool hQ, .bool hF] 23) = W := ⟨_, rfl⟩
    have k0 : Bk W w.heap.size #[.string ⟨#[]⟩, .string ⟨#[]⟩, .string ⟨#[]⟩, .string ⟨#[]⟩, .string ⟨#[]⟩, .bool false, .bool false, .bool false] := hW ▸ (Bk.bel (Bk.new _ _ _) hb1).al _
    have k1 : Bk W w1.heap.size #[.string (bs sch), .string (bs auth), .string (bs path), .string (bs q), .string (bs frag), .bool hA, .bool hQ, .bool hF] := hW ▸ Bk.new _ _ _
    have hbel : Below w.heap.size w W := hW ▸ bl_a (bl_t (bl_a (Below.refl _ _) _) hb1) _
    clear hb1 f1
    obtain ⟨x0, x1, x2, x3, x4, x5, x6, x7⟩ := k1.c8
    obtain ⟨p0, p1, p2, p3, p4, p5, p6, p7⟩ := k0.c8
    obtain ⟨z0, z1, z2, z3, z4, z5, z6, z7⟩ := k0.z8
    clear k0 k1
    go_wp2_with first | (go_at_call 27; refine (g1 _).mono ?_; rintro e w' ⟨rfl, rfl⟩) | (go_at_call 28; (first | (with_reducible refine (g2 _).mono ?_)); rintro e w' ⟨rfl, rfl⟩)
    try simp only [Exit.inBlock, Exit.then]
    refine bodyPost_ret (by simp [results, Try.results10, go_sem, p0, p1, p2, p3, p4, p5, p6, p7]; try rfl) rfl ?_
    exact ⟨by rw [HP.out false rfl]; rfl, by with_reducible repeat (first | exact hbel | refine bl_d ?_ | refine bl_n ?_ _ | refine bl_s ?_ (Nat.le_refl _) _)⟩
  cases b3
  · go_enter Try.func10, Try.ntmps10
    go_wp2_with fail
    refine (f1 _).mono ?_
    rintro e w1 ⟨rfl, hb1⟩
    obtain ⟨W, hW⟩ : ∃ W, w1.alloc (.cells #[.string (bs sch), .string (bs auth), .string (bs path), .string (bs q), .string (bs frag), .bool hA, .bool hQ, .bool hF] 23) = W := ⟨_, rfl⟩
    have k0 : Bk W w.heap.size #[.string ⟨#[]⟩, .string ⟨#[]⟩, .string ⟨#[]⟩, .string ⟨#[]⟩, .string ⟨#[]⟩, .bool false, .bool false, .bool false] := hW ▸ (Bk.bel (Bk.new _ _ _) hb1).al _
    have k1 : Bk W w1.heap.size #[.string (bs sch), .string (bs auth), .string (bs path), .string (bs q), .string (bs frag), .bool hA, .bool hQ, .bool hF] := hW ▸ Bk.new _ _ _
    have hbel : Below w.heap.size w W := hW ▸ bl_a (bl_t (bl_a (Below.refl _ _) _) hb1) _
    clear hb1 f1
    obtain ⟨x0, x1, x2, x3, x4, x5, x6, x7⟩ := k1.c8
    obtain ⟨p0, p1, p2, p3, p4, p5, p6, p7⟩ := k0.c8
    obtain ⟨z0, z1, z2, z3, z4, z5, z6, z7⟩ := k0.z8
    clear k0 k1
    go_wp2_with first | (go_at_call 27; refine (g1 _).mono ?_; rintro e w' ⟨rfl, rfl⟩) | (go_at_call 28; (first | (with_reducible refine (g2 _).mono ?_) | (with_reducible refine (g3 _).mono ?_)); rintro e w' ⟨rfl, rfl⟩)
    try simp only [Exit.inBlock, Exit.then]
    refine bodyPost_ret (by simp [results, Try.results10, go_sem, p0, p1, p2, p3, p4, p5, p6, p7]; try rfl) rfl ?_
    exact ⟨by rw [HP.out false rfl]; rfl, by with_reducible repeat (first | exact hbel | refine bl_d ?_ | refine bl_n ?_ _ | refine bl_s ?_ (Nat.le_refl _) _)⟩
  cases b4
  · go_enter Try.func10, Try.ntmps10
    go_wp2_with fail
    refine (f1 _).mono ?_
    rintro e w1 ⟨rfl, hb1⟩
    obtain ⟨W, hW⟩ : ∃ W, w1.alloc (.cells #[.string (bs sch), .string (bs auth), .string (bs path), .string (bs q), .string (bs frag), .bool hA, .bool hQ, .bool hF] 23) = W := ⟨_, rfl⟩
    have k0 : Bk W w.heap.size #[.string ⟨#[]⟩, .string ⟨#[]⟩, .string ⟨#[]⟩, .string ⟨#[]⟩, .string ⟨#[]⟩, .bool false, .bool false, .bool false] := hW ▸ (Bk.bel (Bk.new _ _ _) hb1).al _
    have k1 : Bk W w1.heap.size #[.string (bs sch), .string (bs auth), .string (bs path), .string (bs q), .string (bs frag), .bool hA, .bool hQ, .bool hF] := hW ▸ Bk.new _ _ _
    have hbel : Below w.heap.size w W := hW ▸ bl_a (bl_t (bl_a (Below.refl _ _) _) hb1) _
    clear hb1 f1
    obtain ⟨x0, x1, x2, x3, x4, x5, x6, x7⟩ := k1.c8
    obtain ⟨p0, p1, p2, p3, p4, p5, p6, p7⟩ := k0.c8
    obtain ⟨z0, z1, z2, z3, z4, z5, z6, z7⟩ := k0.z8
    clear k0 k1
    go_wp2_with first | (go_at_call 27; refine (g1 _).mono ?_; rintro e w' ⟨rfl, rfl⟩) | (go_at_call 28; (first | (with_reducible refine (g2 _).mono ?_) | (with_reducible refine (g3 _).mono ?_) | (with_reducible refine (g4 _).mono ?_)); rintro e w' ⟨rfl, rfl⟩)
    try simp only [Exit.inBlock, Exit.then]
    refine bodyPost_ret (by simp [results, Try.results10, go_sem, p0, p1, p2, p3, p4, p5, p6, p7]; try rfl) rfl ?_
    exact ⟨by rw [HP.out false rfl]; rfl, by with_reducible repeat (first | exact hbel | refine bl_d ?_ | refine bl_n ?_ _ | refine bl_s ?_ (Nat.le_refl _) _)⟩
  cases b5
  · go_enter Try.func10, Try.ntmps10
    go_wp2_with fail
    refine (f1 _).mono ?_
    rintro e w1 ⟨rfl, hb1⟩
    obtain ⟨W, hW⟩ : ∃ W, w1.alloc (.cells #[.string (bs sch), .string (bs auth), .string (bs path), .string (bs q), .string (bs frag), .bool hA, .bool hQ, .bool hF] 23) = W := ⟨_, rfl⟩
    have k0 : Bk W w.heap.size #[.string ⟨#[]⟩, .string ⟨#[]⟩, .string ⟨#[]⟩, .string ⟨#[]⟩, .string ⟨#[]⟩, .bool false, .bool false, .bool false] := hW ▸ (Bk.bel (Bk.new _ _ _) hb1).al _
    have k1 : Bk W w1.heap.size #[.string (bs sch), .string (bs auth), .string (bs path), .string (bs q), .string (bs frag), .bool hA, .bool hQ, .bool hF] := hW ▸ Bk.new _ _ _
    have hbel : Below w.heap.size w W := hW ▸ bl_a (bl_t (bl_a (Below.refl _ _) _) hb1) _
    clear hb1 f1
    obtain ⟨x0, x1, x2, x3, x4, x5, x6, x7⟩ := k1.c8
    obtain ⟨p0, p1, p2, p3, p4, p5, p6, p7⟩ := k0.c8
    obtain ⟨z0, z1, z2, z3, z4, z5, z6, z7⟩ := k0.z8
    clear k0 k1
    go_wp2_with first | (go_at_call 27; refine (g1 _).mono ?_; rintro e w' ⟨rfl, rfl⟩) | (go_at_call 28; (first | (with_reducible refine (g2 _).mono ?_) | (with_reducible refine (g3 _).mono ?_) | (with_reducible refine (g4 _).mono ?_) | (with_reducible refine (g5 _).mono ?_)); rintro e w' ⟨rfl, rfl⟩)
    try simp only [Exit.inBlock, Exit.then]
    refine bodyPost_ret (by simp [results, Try.results10, go_sem, p0, p1, p2, p3, p4, p5, p6, p7]; try rfl) rfl ?_
    exact ⟨by rw [HP.out false rfl]; rfl, by with_reducible repeat (first | exact hbel | refine bl_d ?_ | refine bl_n ?_ _ | refine bl_s ?_ (Nat.le_refl _) _)⟩
  cases se
  · go_enter Try.func10, Try.ntmps10
    go_wp2_with fail
    refine (f1 _).mono ?_
    rintro e w1 ⟨rfl, hb1⟩
    obtain ⟨W, hW⟩ : ∃ W, w1.alloc (.cells #[.string (bs sch), .string (bs auth), .string (bs path), .string (bs q), .string (bs frag), .bool hA, .bool hQ, .bool hF] 23) = W := ⟨_, rfl⟩
    have k0 : Bk W w.heap.size #[.string ⟨#[]⟩, .string ⟨#[]⟩, .string ⟨#[]⟩, .string ⟨#[]⟩, .string ⟨#[]⟩, .bool false, .bool false, .bool false] := hW ▸ (Bk.bel (Bk.new _ _ _) hb1).al _
    have k1 : Bk W w1.heap.size #[.string (bs sch), .string (bs auth), .string (bs path), .string (bs q), .string (bs frag), .bool hA, .bool hQ, .bool hF] := hW ▸ Bk.new _ _ _
    have hbel : Below w.heap.size w W := hW ▸ bl_a (bl_t (bl_a (Below.refl _ _) _) hb1) _
    clear hb1 f1
    obtain ⟨x0, x1, x2, x3, x4, x5, x6, x7⟩ := k1.c8
    obtain ⟨p0, p1, p2, p3, p4, p5, p6, p7⟩ := k0.c8
    obtain ⟨z0, z1, z2, z3, z4, z5, z6, z7⟩ := k0.z8
    clear k0 k1
    go_wp2_with first | (go_at_call 27; refine (g1 _).mono ?_; rintro e w' ⟨rfl, rfl⟩) | (go_at_call 28; (first | (with_reducible refine (g2 _).mono ?_) | (with_reducible refine (g3 _).mono ?_) | (with_reducible refine (g4 _).mono ?_) | (with_reducible refine (g5 _).mono ?_)); rintro e w' ⟨rfl, rfl⟩)
    go_quiet (fail)
    go_wp2
    try simp only [Exit.inBlock, Exit.then]
    refine bodyPost_ret (by simp [results, Try.results10, go_sem, p0, p1, p2, p3, p4, p5, p6, p7]; try rfl) rfl ?_
    exact ⟨by rw [HP.out true rfl]; rfl, by with_reducible repeat (first | exact hbel | refine bl_d ?_ | refine bl_n ?_ _ | refine bl_s ?_ (Nat.le_refl _) _)⟩
  generalize hix1 : ix path 58 = k1x at *
  generalize hix2 : ix path 47 = k2x at *
  clear hix1 hix2
  cases hlt : decide (k1x < k2x)
  · have hlI : ¬ (k1x : Int) < (k2x : Int) := by have := of_decide_eq_false hlt; omega
    rw [hlt] at HP
    clear hlt
    go_enter Try.func10, Try.ntmps10
    go_wp2_with fail
    refine (f1 _).mono ?_
    rintro e w1 ⟨rfl, hb1⟩
    obtain ⟨W, hW⟩ : ∃ W, w1.alloc (.cells #[.string (bs sch), .string (bs auth), .string (bs path), .string (bs q), .string (bs frag), .bool hA, .bool hQ, .bool hF] 23) = W := ⟨_, rfl⟩
    have k0 : Bk W w.heap.size #[.string ⟨#[]⟩, .string ⟨#[]⟩, .string ⟨#[]⟩, .string ⟨#[]⟩, .string ⟨#[]⟩, .bool false, .bool false, .bool false] := hW ▸ (Bk.bel (Bk.new _ _ _) hb1).al _
    have k1 : Bk W w1.heap.size #[.string (bs sch), .string (bs auth), .string (bs path), .string (bs q), .string (bs frag), .bool hA, .bool hQ, .bool hF] := hW ▸ Bk.new _ _ _
    have hbel : Below w.heap.size w W := hW ▸ bl_a (bl_t (bl_a (Below.refl _ _) _) hb1) _
    clear hb1 f1
    obtain ⟨x0, x1, x2, x3, x4, x5, x6, x7⟩ := k1.c8
    obtain ⟨p0, p1, p2, p3, p4, p5, p6, p7⟩ := k0.c8
    obtain ⟨z0, z1, z2, z3, z4, z5, z6, z7⟩ := k0.z8
    clear k0 k1
    go_wp2_with first | (go_at_call 27; refine (g1 _).mono ?_; rintro e w' ⟨rfl, rfl⟩) | (go_at_call 28; (first | (with_reducible refine (g2 _).mono ?_) | (with_reducible refine (g3 _).mono ?_) | (with_reducible refine (g4 _).mono ?_) | (with_reducible refine (g5 _).mono ?_)); rintro e w' ⟨rfl, rfl⟩)
    cases hA
    · go_quiet ((go_at_call 29; (first | (with_reducible exact Calls.quiet_of_same (j1 _)) | (with_reducible exact Calls.quiet_of_same (j2 _)))))
      go_wp2
      try simp only [Exit.inBlock, Exit.then]
      refine bodyPost_ret (by simp [results, Try.results10, go_sem, p0, p1, p2, p3, p4, p5, p6, p7]; try rfl) rfl ?_
      exact ⟨by rw [HP.out true rfl]; rfl, by with_reducible repeat (first | exact hbel | refine bl_d ?_ | refine bl_n ?_ _ | refine bl_s ?_ (Nat.le_refl _) _)⟩
    · go_quiet (fail)
      go_wp2
      try simp only [Exit.inBlock, Exit.then]
      refine bodyPost_ret (by simp [results, Try.results10, go_sem, p0, p1, p2, p3, p4, p5, p6, p7]; try rfl) rfl ?_
      exact ⟨by rw [HP.out true rfl]; rfl, by with_reducible repeat (first | exact hbel | refine bl_d ?_ | refine bl_n ?_ _ | refine bl_s ?_ (Nat.le_refl _) _)⟩
  · have hlI : (k1x : Int) < (k2x : Int) := by have := of_decide_eq_true hlt; omega
    rw [hlt] at HP
    clear hlt
    go_enter Try.func10, Try.ntmps10
    go_wp2_with fail
    refine (f1 _).mono ?_
    rintro e w1 ⟨rfl, hb1⟩
    obtain ⟨W, hW⟩ : ∃ W, w1.alloc (.cells #[.string (bs sch), .string (bs auth), .string (bs path), .string (bs q), .string (bs frag), .bool hA, .bool hQ, .bool hF] 23) = W := ⟨_, rfl⟩
    have k0 : Bk W w.heap.size #[.string ⟨#[]⟩, .string ⟨#[]⟩, .string ⟨#[]⟩, .string ⟨#[]⟩, .string ⟨#[]⟩, .bool false, .bool false, .bool false] := hW ▸ (Bk.bel (Bk.new _ _ _) hb1).al _
    have k1 : Bk W w1.heap.size #[.string (bs sch), .string (bs auth), .string (bs path), .string (bs q), .string (bs frag), .bool hA, .bool hQ, .bool hF] := hW ▸ Bk.new _ _ _
    have hbel : Below w.heap.size w W := hW ▸ bl_a (bl_t (bl_a (Below.refl _ _) _) hb1) _
    clear hb1 f1
    obtain ⟨x0, x1, x2, x3, x4, x5, x6, x7⟩ := k1.c8
    obtain ⟨p0, p1, p2, p3, p4, p5, p6, p7⟩ := k0.c8
    obtain ⟨z0, z1, z2, z3, z4, z5, z6, z7⟩ := k0.z8
    clear k0 k1
    go_wp2_with first | (go_at_call 27; refine (g1 _).mono ?_; rintro e w' ⟨rfl, rfl⟩) | (go_at_call 28; (first | (with_reducible refine (g2 _).mono ?_) | (with_reducible refine (g3 _).mono ?_) | (with_reducible refine (g4 _).mono ?_) | (with_reducible refine (g5 _).mono ?_)); rintro e w' ⟨rfl, rfl⟩)
    cases hA
    · go_quiet ((go_at_call 29; (first | (with_reducible exact Calls.quiet_of_same (j1 _)) | (with_reducible exact Calls.quiet_of_same (j2 _)))))
      go_wp2
      try simp only [Exit.inBlock, Exit.then]
      refine bodyPost_ret (by simp [results, Try.results10, go_sem, p0, p1, p2, p3, p4, p5, p6, p7]; try rfl) rfl ?_
      exact ⟨by rw [HP.out false rfl]; rfl, by with_reducible repeat (first | exact hbel | refine bl_d ?_ | refine bl_n ?_ _ | refine bl_s ?_ (Nat.le_refl _) _)⟩
    · go_quiet (fail)
      go_wp2
      try simp only [Exit.inBlock, Exit.then]
      refine bodyPost_ret (by simp [results, Try.results10, go_sem, p0, p1, p2, p3, p4, p5, p6, p7]; try rfl) rfl ?_
      exact ⟨by rw [HP.out true rfl]; rfl, by with_reducible repeat (first | exact hbel | refine bl_d ?_ | refine bl_n ?_ _ | refine bl_s ?_ (Nat.le_refl _) _)⟩
end Go.Proofs.Ytgmigdfkdioalaa
