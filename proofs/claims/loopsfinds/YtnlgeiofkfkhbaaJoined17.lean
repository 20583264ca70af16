/-
  Going depth first, in memory: from a place on; the search made. Conditions: at most 1000 places.
-/
import Derived.Test.YtnlgeiofkfkhbaaJoined16
namespace Go.Proofs.Ytnlgeiofkfkhbaa
open Go.RowKit Go.Maps Lg
attribute [local go_sem] setCell_drewN alloc_drewN

/-- From a place on, where it is not left yet. -/
def top (R : Nat → List Nat) (stop : Bool) (f v : Nat) (fin : List Nat) : Except (List Nat) (List Nat) := if v ∈ fin then .ok fin else visit R stop f fin [] v
/-- What is left of it. -/
def TpP (e : SV) (m : Nat) (R : Nat → List Nat) (A fin : List Nat) (res : Except (List Nat) (List Nat)) (w : World) (r : Ending) (w' : World) : Prop :=
 BX e w w' ∧ match res with
  | .ok fin' => r = .returned (.bool true) ∧ ∃ D, fin' = fin ++ D ∧ SS w' e m R [] [] fin' (A ++ D) false
  | .error c => r = .returned (.bool false) ∧ (∃ va, Bk w' e.ab #[va]) ∧ ∃ cv, Bk w' e.cy #[cv] ∧ II w' (fun b => b < e.B) (il c) cv
theorem TpP.ret {e : SV} {m : Nat} {R : Nat → List Nat} {A fin : List Nat} {res : Except (List Nat) (List Nat)} {w : World} {r : Ending} {w' : World} (h : TpP e m R A fin res w r w') : ∃ v, r = .returned v := by
 cases res with
 | ok _ => exact ⟨_, h.2.1⟩
 | error _ => exact ⟨_, h.2.1⟩

set_option maxRecDepth 100000 in
set_option maxHeartbeats 3200000 in
theorem from_in (e : SV) (m : Nat) (R : Nat → List Nat) (hm : m ≤ 1000) (v : Nat) (fin A : List Nat) (w : World) (hv : v < m) (hin : v ∈ fin) (hS : SS w e m R [] [] fin A false) :
  Calls Try.prog 49 #[.int .i64 (v : Int), pt (e.B + 8), pt (e.B + 10), pt (e.B + 3), pt (e.B + 9), pt (e.B + 11)] w fun r w' => r = .returned (.bool true) ∧ w' = w := by
 obtain ⟨v1, v2, v6, v8, v9, v10, v11⟩ := hS.vs
 obtain ⟨pao, pcap, q1, _⟩ := hS.path
 have l7 := (hS.lf.cell v).trans (lfs_at fin hv)
 rw [decide_eq_true hin] at l7
 obtain ⟨B, ab, cy, K, stop, x0⟩ := e
 dsimp only [pt, SV.lv, SV.en, SV.se, List.length_nil] at *
 have hvI : (v : Int) < (m : Int) := by omega
 have hmI : (m : Int) ≤ 1000 := by omega
 clear hS hin v1 v2 v6 v10 v11 hv hm
 obtain ⟨Q0, hQ0⟩ : ∃ P' : Ending → World → Prop, P' = fun r w' => r = .returned (.bool true) ∧ w' = w := ⟨_, rfl⟩
 rw [← hQ0]
 have HQ := hid_intro hQ0
 clear hQ0
 go_enter Try.func49, Try.ntmps49
 go_wp2_with fail
 go_loopg [23] (0) (fun g s23 wr => g = 0 ∧ wr = w)
 case atStart => exact ⟨rfl, rfl⟩
 case round =>
  obtain ⟨rfl, rfl⟩ := hrel
  go_wp2_with fail
  rw [HQ.out]
  exact ⟨rfl, rfl⟩

set_option maxRecDepth 100000 in
set_option maxHeartbeats 3200000 in
theorem from_out (e : SV) (m : Nat) (R : Nat → List Nat) (hm : m ≤ 1000) (hR : ∀ v, ∀ t ∈ R v, t < m) (hRl : ∀ v, (R v).length ≤ 1048576) (hK : PutOK e.K) (hent : ∀ args w, (callFunc e.K args).run Try.prog w = .ok (.enter e.K args) w) (f : Nat) (hf : m ≤ f)
  (v : Nat) (fin A : List Nat) (w : World) (hv : v < m) (hin : v ∉ fin) (hFin : Fin R m e.stop fin) (hA : A.length ≤ fin.length) (hS : SS w e m R [] [] fin A false) :
  Calls Try.prog 49 #[.int .i64 (v : Int), pt (e.B + 8), pt (e.B + 10), pt (e.B + 3), pt (e.B + 9), pt (e.B + 11)] w (TpP e m R A fin (visit R e.stop f fin [] v) w) := by
 have hpre := pre_top hFin hv hin
 have hlen := hpre.len
 simp only [List.nil_append, List.length_cons, List.length_nil] at hlen
 obtain ⟨v1, v2, v6, v8, v9, v10, v11⟩ := hS.vs
 have l7 := (hS.lf.cell v).trans (lfs_at fin hv)
 rw [decide_eq_false hin] at l7
 have HCE := hid_intro (enter_any e m R [] [] fin A false v w (by omega) rfl (by simp; omega) hv (by simp) hS)
 have HCS := hid_intro (fun w4 hs4 => search_any e m R hm hR hRl hK hent f [] v [] fin A w4 hpre rfl hA (by simp; omega) hs4)
 obtain ⟨B, ab, cy, K, stop, x0⟩ := e
 dsimp only [pt, SV.lv, SV.en, SV.se, List.length_nil, List.nil_append] at *
 have hvI : (v : Int) < (m : Int) := by omega
 have hmI : (m : Int) ≤ 1000 := by omega
 obtain ⟨Q0, hQ0⟩ : ∃ P' : Ending → World → Prop, P' = TpP ⟨B, ab, cy, K, stop, x0⟩ m R A fin (visit R stop f fin [] v) w := ⟨_, rfl⟩
 rw [← hQ0]
 have HQ := hid_intro hQ0
 generalize visit R stop f fin [] v = res at *
 obtain ⟨S1, hS1⟩ : ∃ S : Ending → World → Prop, S = fun r w' => r = .returned (.tuple #[]) ∧ SS w' ⟨B, ab, cy, K, stop, x0⟩ m R [v] [0] fin A false ∧ BX ⟨B, ab, cy, K, stop, x0⟩ w w' := ⟨_, rfl⟩
 have HS1 := hid_intro hS1
 rw [← hS1] at HCE
 clear hS hin v1 v2 v6 hv hm hpre hlen hR hRl hK hent hf hFin hA hQ0 hS1
 go_enter Try.func49, Try.ntmps49
 go_wp2_with (first | (refine wpList_clo1 rfl _ _ _ rfl _ _ rfl ent_enter _ rfl S1 ?_ ?_ ?_; exact HCE.out; rotate_left; (intro e w' h; rw [HS1.out] at h; exact ⟨_, h.1⟩); intro v4 w4 hs4; rw [HS1.out] at hs4; obtain ⟨hv4, hs4, hb4⟩ := hs4; injection hv4 with hv4; subst hv4; have HS4 := hid_intro (And.intro hs4 hb4); clear hs4 hb4 v8 v9 v10 v11 l7) | fail)
 go_frame
 go_loopg [23] (1) (fun g s23 wr => ((g = 1 ∧ wr = w4) ∨ (g = 0 ∧ Hid (SrP ⟨B, ab, cy, K, stop, x0⟩ m R [] [] A fin res w4 (.returned (.tuple #[])) wr))))
 case atStart => exact Or.inl ⟨rfl, rfl⟩
 case round =>
  rcases hrel with ⟨rfl, rfl⟩ | ⟨rfl, HR⟩
  ·obtain ⟨pao, pcap, q1, _⟩ := HS4.out.1.path
   obtain ⟨v1, v2, v6, v8, v9, v10, v11⟩ := HS4.out.1.vs
   have H5 := hid_intro (HCS.out wr HS4.out.1)
   dsimp only [pt, SV.lv, SV.en, SV.se, List.length_cons, List.length_nil] at q1 v9 v11 H5
   clear v1 v2 v6 v8 v10 HCS HCE
   go_wp2_with fail
   refine H5.out.mono ?_
   intro r w5 hs5
   have h1 := hs5.1
   subst h1
   have HS5 := hid_intro hs5
   clear hs5 q1 v9 v11 H5
   go_wp2_with fail
   go_roundg (0)
   case measure => omega
   case rel => exact Or.inr ⟨rfl, HS5⟩
  ·cases res with
   | ok fin' =>
    obtain ⟨_, hb, D, hD, hs⟩ := HR.out
    obtain ⟨pao, pcap, q1, _⟩ := hs.path
    have v9 := hs.vs.v9
    have HS5 := hid_intro (And.intro hD hs)
    have HB5 := hid_intro hb
    dsimp only [List.length_nil] at q1 v9
    clear hs hb hD HR HCS HCE
    go_wp2_with fail
    rw [HQ.out]
    exact ⟨HS4.out.2.trans HB5.out, rfl, D, HS5.out.1, HS5.out.2⟩
   | error c =>
    obtain ⟨_, hb, P5, F5, fin5, A5, hP5, hs, hcv⟩ := HR.out
    obtain ⟨pao, pcap, q1, _⟩ := hs.path
    have v9 := hs.vs.v9
    have HS5 := hid_intro hcv
    have HAB : Hid (∃ va, Bk wr ab #[va]) := hid_intro (by obtain ⟨_, _, va, _, _, ka, _⟩ := hs.ro; exact ⟨va, ka⟩)
    have HB5 := hid_intro hb
    have hP5I : (0 : Int) < (P5.length : Int) := by simp only [List.length_nil] at hP5; omega
    dsimp only at q1 v9
    clear hs hb hcv HR HCS HCE hP5
    go_wp2_with fail
    rw [HQ.out]
    exact ⟨HS4.out.2.trans HB5.out, rfl, HAB.out, HS5.out⟩
theorem from_any (e : SV) (m : Nat) (R : Nat → List Nat) (hm : m ≤ 1000) (hR : ∀ v, ∀ t ∈ R v, t < m) (hRl : ∀ v, (R v).length ≤ 1048576) (hK : PutOK e.K) (hent : ∀ args w, (callFunc e.K args).run Try.prog w = .ok (.enter e.K args) w) (f : Nat) (hf : m ≤ f)
  (v : Nat) (fin A : List Nat) (w : World) (hv : v < m) (hFin : Fin R m e.stop fin) (hA : A.length ≤ fin.length) (hS : SS w e m R [] [] fin A false) :
  Calls Try.prog 49 #[.int .i64 (v : Int), pt (e.B + 8), pt (e.B + 10), pt (e.B + 3), pt (e.B + 9), pt (e.B + 11)] w (TpP e m R A fin (top R e.stop f v fin) w) := by
 unfold top
 by_cases h : v ∈ fin
 ·rw [if_pos h]
  refine (from_in e m R hm v fin A w hv h hS).mono ?_
  rintro r w' ⟨rfl, rfl⟩
  exact ⟨BX.refl _ _, rfl, [], by simp, by simpa using hS⟩
 ·rw [if_neg h]
  exact from_out e m R hm hR hRl hK hent f hf v fin A w hv h hFin hA hS
end Go.Proofs.Ytnlgeiofkfkhbaa
