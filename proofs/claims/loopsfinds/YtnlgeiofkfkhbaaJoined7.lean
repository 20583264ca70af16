/-
  All numbers gone through; without a cycle each stands behind what it leads to; against the edges, from the last one left on, the parts are what leads to each other. No condition.
-/
import Derived.Test.YtnlgeiofkfkhbaaJoined6
namespace Go.Proofs.Ytnlgeiofkfkhbaa.Lg
theorem Rch.snoc {R : Nat → List Nat} {a b c : Nat} (h : Rch R a b) (t : c ∈ R b) : Rch R a c := h.trans (.one t)
/-- From all of a row, one behind the other, where they are not left yet. -/
def runs (R : Nat → List Nat) (stop : Bool) (f : Nat) : List Nat → List Nat → Except (List Nat) (List Nat)
 | [], fin => .ok fin
 | v :: vs, fin =>
  if v ∈ fin then runs R stop f vs fin
  else match visit R stop f fin [] v with
   | .error c => .error c
   | .ok fin' => runs R stop f vs fin'
structure Fin (R : Nat → List Nat) (m : Nat) (stop : Bool) (fin : List Nat) : Prop where
 fnd : fin.Nodup
 cl : ∀ a ∈ fin, ∀ y ∈ R a, y ∈ fin
 flt : ∀ x ∈ fin, x < m
 q : ∀ A u B, fin = A ++ u :: B → ∀ a ∈ A ++ [u], ∀ y ∈ R a, y ∈ A ++ [u] ∨ Rch R y u
 s : stop = true → ∀ A u B, fin = A ++ u :: B → ∀ y ∈ R u, y ∈ A
theorem Fin.nil (R : Nat → List Nat) (m : Nat) (stop : Bool) : Fin R m stop [] :=
 ⟨List.nodup_nil, fun a h => by simp at h, fun a h => by simp at h, fun A u B e => by simp at e, fun _ A u B e => by simp at e⟩
theorem app_split {F D A B : List Nat} {u : Nat} (e : F ++ D = A ++ u :: B) (h : ¬ F.length ≤ A.length) : ∃ C, F = A ++ u :: C := by
 have e' : F ++ D = (A ++ [u]) ++ B := by rw [e]; simp
 rcases List.append_eq_append_iff.1 e' with ⟨C, h3, _⟩ | ⟨C, h3, _⟩
 ·have h5 := congrArg List.length h3
  simp at h5
  have : C = [] := List.eq_nil_of_length_eq_zero (by omega)
  exact ⟨[], by rw [this] at h3; simp at h3; exact h3.symm⟩
 ·exact ⟨C, by rw [h3]; simp⟩
theorem pre_top {R : Nat → List Nat} {m : Nat} {stop : Bool} {fin : List Nat} {v : Nat} (h : Fin R m stop fin) (hv : v < m) (hn : v ∉ fin) : Pre R m fin [] v :=
 ⟨trivial, by simp, h.fnd, fun x hx e => by simp at e; subst e; exact hn hx, fun a ha y hy => .inl (h.cl a ha y hy), fun x hx => by simp at hx; subst hx; exact hv, h.flt⟩
theorem Fin.add {R : Nat → List Nat} {m : Nat} {stop : Bool} {fin fin' : List Nat} {v : Nat} (h : Fin R m stop fin) (hp : Post R m stop fin [] v fin') : Fin R m stop fin' := by
 obtain ⟨D, rfl, hD⟩ := hp.ex
 refine ⟨hp.fnd, fun a ha y hy => ?_, hp.flt, fun A u B e => ?_, fun hs A u B e => ?_⟩
 ·rcases hp.cl a ha y hy with e | e
  ·exact e
  ·simp at e
 ·by_cases hl : fin.length ≤ A.length
  ·exact hp.q A u B e hl
  ·obtain ⟨C, hC⟩ := app_split e hl
   exact h.q A u C hC
 ·by_cases hl : fin.length ≤ A.length
  ·exact hp.s hs A u B e hl
  ·obtain ⟨C, hC⟩ := app_split e hl
   exact h.s hs A u C hC
theorem runs_says {R : Nat → List Nat} {m : Nat} {stop : Bool} (hR : ∀ v, ∀ t ∈ R v, t < m) {f : Nat} (hf : m ≤ f) : ∀ (vs fin : List Nat), (∀ v ∈ vs, v < m) → Fin R m stop fin →
  match runs R stop f vs fin with
  | .ok fin' => Fin R m stop fin' ∧ (∃ D, fin' = fin ++ D) ∧ ∀ v ∈ vs, v ∈ fin'
  | .error c => stop = true ∧ Cyc R c
 | [], fin, _, h => ⟨h, ⟨[], by simp⟩, fun v hv => by simp at hv⟩
 | v :: vs, fin, hv, h => by
  unfold runs
  by_cases hm : v ∈ fin
  ·rw [if_pos hm]
   have := runs_says hR hf vs fin (fun x hx => hv x (by simp [hx])) h
   generalize runs R stop f vs fin = r at this
   cases r with
   | error c => exact this
   | ok fin' =>
    obtain ⟨k1, ⟨D, rfl⟩, k3⟩ := this
    refine ⟨k1, ⟨D, rfl⟩, fun x hx => ?_⟩
    rcases List.mem_cons.1 hx with rfl | hx
    ·exact List.mem_append_left _ hm
    ·exact k3 x hx
  ·rw [if_neg hm]
   have hs := visit_says hR f fin [] v (pre_top h (hv v (by simp)) hm) (by simp; omega) (stop := stop)
   generalize visit R stop f fin [] v = r at hs
   cases r with
   | error c => exact hs
   | ok fin2 =>
    have hs : Post R m stop fin [] v fin2 := hs
    have h2 := h.add hs
    obtain ⟨D, hD, _⟩ := hs.ex
    have := runs_says hR hf vs fin2 (fun x hx => hv x (by simp [hx])) h2
    show (match runs R stop f vs fin2 with | .ok fin' => _ | .error c => _)
    generalize runs R stop f vs fin2 = r at this
    cases r with
    | error c => exact this
    | ok fin' =>
     obtain ⟨k1, ⟨D', rfl⟩, k3⟩ := this
     refine ⟨k1, ⟨D ++ D', by rw [hD]; simp⟩, fun x hx => ?_⟩
     rcases List.mem_cons.1 hx with rfl | hx
     ·exact List.mem_append_left _ hs.mem
     ·exact k3 x hx
/-- All that one comes to by one edge at least: none comes back to itself. -/
theorem topo_reach {R : Nat → List Nat} {m : Nat} {fin : List Nat} (h : Fin R m true fin) {u y : Nat} (hr : Rch R u y) : ∀ A B, fin = A ++ u :: B → y = u ∨ y ∈ A := by
 induction hr with
 | refl a => exact fun A B _ => .inl rfl
 | step hb _ ih =>
  intro A B e
  have h1 := h.s rfl A _ B e _ hb
  obtain ⟨A1, A2, rfl⟩ := List.append_of_mem h1
  rcases ih A1 (A2 ++ _ :: B) (by rw [e]; simp; rfl) with rfl | k
  ·exact .inr h1
  ·exact .inr (by simp [k])
theorem topo_free {R : Nat → List Nat} {m : Nat} {fin : List Nat} (h : Fin R m true fin) {v y : Nat} (hv : v ∈ fin) (hy : y ∈ R v) (hr : Rch R y v) : False := by
 obtain ⟨A, B, e⟩ := List.append_of_mem hv
 have h1 := h.s rfl A v B e y hy
 have hn : v ∉ A := by
  have := h.fnd
  rw [e, List.nodup_append] at this
  exact fun k => this.2.2 v k v (by simp) rfl
 obtain ⟨A1, A2, rfl⟩ := List.append_of_mem h1
 rcases topo_reach h hr A1 (A2 ++ v :: B) (by rw [e]; simp) with rfl | k
 ·exact hn h1
 ·exact hn (by simp [k])
theorem cyc_reach {R : Nat → List Nat} {c : List Nat} (h : Cyc R c) : ∃ v y, v ∈ c ∧ y ∈ R v ∧ Rch R y v := by
 obtain ⟨l, v, t, rfl, hc, hh, ht⟩ := h
 exact ⟨v, t, by simp, ht, hc.last (List.mem_of_head? hh)⟩
/-- Where one leaves a set. -/
theorem leave {R : Nat → List Nat} {S : List Nat} {G : Nat → Prop} (hS : ∀ a ∈ S, ∀ y ∈ R a, y ∈ S ∨ G y) {a r : Nat} (h : Rch R a r) : a ∈ S → r ∉ S → ∃ y, y ∉ S ∧ G y ∧ Rch R a y ∧ Rch R y r := by
 induction h with
 | refl => exact fun h1 h2 => absurd h1 h2
 | step hb t ih =>
  intro ha hr
  rename_i b _
  by_cases hbS : b ∈ S
  ·obtain ⟨y, k1, k2, k3, k4⟩ := ih hbS hr
   exact ⟨y, k1, k2, .step hb k3, k4⟩
  ·rcases hS _ ha b hb with e | e
   ·exact absurd e hbS
   ·exact ⟨b, hbS, e, .one hb, t⟩
theorem turn_reach {R T : Nat → List Nat} (hT : ∀ a b, b ∈ T a ↔ a ∈ R b) {a b : Nat} (h : Rch T a b) : Rch R b a := by
 induction h with
 | refl => exact .refl _
 | step hb _ ih => exact ih.snoc ((hT _ _).1 hb)
theorem turn_reach' {R T : Nat → List Nat} (hT : ∀ a b, b ∈ T a ↔ a ∈ R b) {a b : Nat} (h : Rch R b a) : Rch T a b := turn_reach (fun a b => (hT b a).symm) h
/-- What stands between two parts. -/
structure Peel (R T : Nat → List Nat) (m : Nat) (A don : List Nat) : Prop where
 fin : Fin T m false don
 scc : ∀ x ∈ don, ∀ y, Rch R x y → Rch R y x → y ∈ don
 rest : ∀ x, x < m → x ∉ A → x ∈ don
/-- Who leads to the last one of those that are left is led to by it. -/
theorem key {R T : Nat → List Nat} {m : Nat} {A B don fin : List Nat} {r : Nat} (hR : ∀ v, ∀ t ∈ R v, t < m) (hf : Fin R m false fin) (e : fin = A ++ r :: B) (hp : Peel R T m (A ++ [r]) don) :
  ∀ (k : Nat) (A1 A2 : List Nat) (x : Nat), A ++ [r] = A1 ++ x :: A2 → A2.length = k → Rch R x r → x ∉ don → Rch R r x := by
 intro k
 induction k using Nat.strongRecOn with
 | _ k ih =>
  intro A1 A2 x e2 hk hr hx
  by_cases hxr : x = r
  ·subst hxr; exact .refl _
  have hnd := hf.fnd
  rw [e, show A ++ r :: B = (A ++ [r]) ++ B by simp, e2] at hnd
  have hrS : r ∉ A1 ++ [x] := by
   intro hm
   have h1 : r ∈ A2 := by
    have h3 : A2 ≠ [] := fun e3 => by
     subst e3
     have := (List.append_inj' e2 rfl).2
     simp at this; exact hxr this.symm
    have h4 : (A1 ++ x :: A2).getLast? = some r := by rw [← e2]; simp
    rw [List.getLast?_append, List.getLast?_cons] at h4
    obtain ⟨A3, b, h5⟩ := (List.eq_nil_or_concat A2).resolve_left h3
    rw [h5] at h4 ⊢
    simp at h4 ⊢
    exact .inr h4.symm
   rw [List.append_assoc, show x :: A2 ++ B = [x] ++ (A2 ++ B) by simp, ← List.append_assoc, List.nodup_append] at hnd
   exact hnd.2.2 r hm r (by simp [h1]) rfl
  have hq := hf.q A1 x (A2 ++ B) (by rw [e, show A ++ r :: B = (A ++ [r]) ++ B by simp, e2]; simp)
  obtain ⟨y, y1, y2, y3, y4⟩ := leave hq hr (by simp) hrS
  have hyd : y ∉ don := fun h => hx (hp.scc y h x y2 y3)
  have hym : y < m := by
   cases y3 with
   | refl => exact absurd (by simp) y1
   | step hb t =>
    have : ∀ {b c : Nat}, Rch R b c → b < m → c < m := by
     intro b c h
     induction h with
     | refl => exact id
     | step hb _ ih => exact fun _ => ih (hR _ _ hb)
    exact this t (hR _ _ hb)
  have hyA : y ∈ A ++ [r] := Decidable.byContradiction fun h => hyd (hp.rest y hym h)
  rw [e2] at hyA
  have hy2 : y ∈ A2 := by
   rcases List.mem_append.1 hyA with h | h
   ·exact absurd (by simp [h]) y1
   ·rcases List.mem_cons.1 h with h | h
    ·exact absurd (by simp [h]) y1
    ·exact h
  obtain ⟨C1, C2, rfl⟩ := List.append_of_mem hy2
  have := ih C2.length (by rw [← hk]; simp; omega) (A1 ++ x :: C1) C2 y (by rw [e2]; simp) rfl y4 hyd
  exact this.trans y2
/-- A part is what leads to each other. -/
theorem part_scc {R T : Nat → List Nat} {m : Nat} {A B don D fin : List Nat} {r : Nat} (hR : ∀ v, ∀ t ∈ R v, t < m) (hT : ∀ a b, b ∈ T a ↔ a ∈ R b) (hf : Fin R m false fin) (e : fin = A ++ r :: B) (hp : Peel R T m (A ++ [r]) don) (hr : r ∉ don) (hpo : Post T m false don [] r (don ++ D)) :
  (∀ x, x ∈ D ↔ Rch R x r ∧ Rch R r x) ∧ Peel R T m A (don ++ D) := by
 have hD : ∀ x ∈ D, Rch T r x := by
  obtain ⟨D', h1, h2⟩ := hpo.ex
  obtain rfl := List.append_cancel_left h1
  exact h2
 have hnd := hpo.fnd
 rw [List.nodup_append] at hnd
 have hcl : ∀ {x y : Nat}, Rch T x y → x ∈ don ++ D → y ∈ don ++ D := by
  intro x y h
  induction h with
  | refl => exact id
  | step hb _ ih =>
   intro hx
   rcases hpo.cl _ hx _ hb with k | k
   ·exact ih k
   ·simp at k
 have hrm : r < m := hf.flt r (by rw [e]; simp)
 have hscc : ∀ x, x ∈ D ↔ Rch R x r ∧ Rch R r x := by
  intro x
  constructor
  ·intro hx
   have h1 := turn_reach hT (hD x hx)
   have hxd : x ∉ don := fun k => hnd.2.2 x k x hx rfl
   have hxm : x < m := hpo.flt x (by simp [hx])
   have hxA : x ∈ A ++ [r] := Decidable.byContradiction fun k => hxd (hp.rest x hxm k)
   obtain ⟨A1, A2, e2⟩ := List.append_of_mem hxA
   exact ⟨h1, key hR hf e hp _ A1 A2 x e2 rfl h1 hxd⟩
  ·rintro ⟨h1, h2⟩
   have hxd : x ∉ don := fun k => hr (hp.scc x k r h1 h2)
   rcases List.mem_append.1 (hcl (turn_reach' hT h1) hpo.mem) with k | k
   ·exact absurd k hxd
   ·exact k
 refine ⟨hscc, hp.fin.add hpo, fun x hx y h1 h2 => ?_, fun x hm hx => ?_⟩
 ·rcases List.mem_append.1 hx with k | k
  ·exact List.mem_append_left _ (hp.scc x k y h1 h2)
  ·obtain ⟨k1, k2⟩ := (hscc x).1 k
   exact List.mem_append_right _ ((hscc y).2 ⟨h2.trans k1, k2.trans h1⟩)
 ·by_cases hxr : x = r
  ·subst hxr; exact hpo.mem
  ·exact List.mem_append_left _ (hp.rest x hm (by simp [hx, hxr]))
theorem Peel.skip {R T : Nat → List Nat} {m : Nat} {A don : List Nat} {r : Nat} (hp : Peel R T m (A ++ [r]) don) (hr : r ∈ don) : Peel R T m A don :=
 ⟨hp.fin, hp.scc, fun x hm hx => by
  by_cases hxr : x = r
  ·subst hxr; exact hr
  ·exact hp.rest x hm (by simp [hx, hxr])⟩
theorem Peel.start {R T : Nat → List Nat} {m : Nat} {fin : List Nat} (h : ∀ x, x < m → x ∈ fin) : Peel R T m fin [] :=
 ⟨Fin.nil T m false, fun x hx => by simp at hx, fun x hm hx => absurd (h x hm) hx⟩
end Go.Proofs.Ytnlgeiofkfkhbaa.Lg
