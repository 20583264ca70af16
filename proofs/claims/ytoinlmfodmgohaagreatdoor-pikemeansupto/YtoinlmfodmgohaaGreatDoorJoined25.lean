/-
  The follower's beginning; what is read; the end of a text. Conditions: the table of greatest code points holds its four numbers; there is room.
  The search, as the document says it. No condition.
  The states at a place as ways from the first state on. No condition.
  The list of states that a tree is compiled into: as it lies in memory; a state more in it. Conditions: there is room.
-/
import Derived.Test.YtoinlmfodmgohaaGreatDoorJoined9
import Derived.Test.YtoinlmfodmgohaaGreatDoorJoined22
import Derived.Test.YtoinlmfodmgohaaGreatDoorJoined24
import Derived.Test.YtoinlmfodmgohaaGreatDoorJoined5
import Derived.Test.YtoinlmfodmgohaaGreatDoorJoined14
import Derived.Lib.SliceRun
import Derived.OwnWalk
import Derived.Laws.OwnMore
import Derived.Laws.AppendOwnNone
import Derived.Deep.RegionHeld3
namespace Go.Proofs.YtoinlmfodmgohaaGreatDoor
open Go.RowKit Go.Maps
attribute [local go_sem] setCell_drewN alloc_drewN

set_option maxRecDepth 100000 in
set_option maxHeartbeats 1600000 in
theorem pnext_nil (lv hv : Value) (ao : Option Addr) (c : Nat) (w : World) : Calls Tryz.prog 35 #[lv, hv, .slice ao 0 c] w fun e w' => e = .returned (.slice none 0 0) ∧ w' = w := by
  obtain ⟨P, hP⟩ : ∃ P : Ending → World → Prop, P = fun e w' => e = .returned (.slice none 0 0) ∧ w' = w := ⟨_, rfl⟩
  rw [← hP]
  have HP := hid_intro hP
  clear hP
  go_enter Tryz.func35, Tryz.ntmps35
  go_wp2_with fail
  rw [HP.out]
  exact ⟨rfl, rfl⟩
/-- The blocks of a follower that begins at a world's end. -/
def evOf (s : Nat) : EV := ⟨s + 3, s + 6, s + 5, s + 4, s, s + 1, s + 7, s + 2, s + 8⟩
def xOf (s : Nat) (b : Nat) : Prop := b = s + 6 ∨ b = s + 5 ∨ b = s + 4 ∨ b = s + 2 ∨ s + 8 ≤ b
def clo2 (s : Nat) : Value := .func (.func 59) #[] #[.pointer (some ⟨s + 4, 0, none⟩), .pointer (some ⟨s + 6, 0, none⟩), .pointer (some ⟨s + 5, 0, none⟩), .pointer (some ⟨s + 7, 0, none⟩)]
def wOf7 (w : World) (lv tv : Value) : World := ((((((w.alloc (.cells #[lv] 24)).alloc (.cells #[tv] 66)).alloc (.map #[] 0)).alloc (.cells #[.map (some (w.heap.size + 2))] 100)).alloc (.cells #[.slice none 0 0] 32)).alloc (.cells #[.slice none 0 0] 32)).alloc (.cells #[.int .i64 0] 3)
def wOf (w : World) (lv tv : Value) : World := (wOf7 w lv tv).alloc (.cells #[clo (evOf w.heap.size)] 101)
theorem f0_start {w : World} {L : List ST} {t : List Int} {lv tv : Value} {X Y : Nat → Prop} (hS : SI w X L lv) (hT : II w Y t tv) : F0 (wOf w lv tv) (xOf w.heap.size) (evOf w.heap.size) L t 0 (.slice none 0 0) ∧ Below w.heap.size w (wOf w lv tv) ∧ (wOf w lv tv).heap.size = w.heap.size + 8 := by
  have h7 : Below w.heap.size w (wOf7 w lv tv) := vb_a (vb_a (vb_a (vb_a (vb_a (vb_a (vb_a (Below.refl _ _) _) _) _) _) _) _) _
  have s7 : (wOf7 w lv tv).heap.size = w.heap.size + 7 := by unfold wOf7; simp
  have hb : Below w.heap.size w (wOf w lv tv) := vb_a h7 _
  have hsz : (wOf w lv tv).heap.size = w.heap.size + 8 := by unfold wOf; simp [s7]
  have hx : ∀ b, b < w.heap.size → ¬ xOf w.heap.size b := fun b h => by unfold xOf; omega
  have up : ∀ b cs, Bk (wOf7 w lv tv) b cs → Bk (wOf w lv tv) b cs := fun b cs h => h.al _
  refine ⟨⟨⟨?_, ?_, ?_, ?_, ?_, ?_, ?_, ⟨lv, ?_, hS.carry fun b _ h => ⟨hb.block b h, hx b h⟩⟩, ⟨tv, ?_, hT.carry fun b _ h => ⟨hb.block b h, hx b h⟩⟩, ?_⟩, ⟨0, ?_⟩, ⟨.slice none 0 0, ?_⟩, ?_, ⟨[], OwnI.nil _ _⟩, (fun b h => by cases h), ⟨0, fun _ => 0, ?_, by simp, fun x _ => Int.le_refl _⟩⟩, hb, hsz⟩
  · unfold xOf evOf; dsimp only; omega
  · unfold xOf evOf; dsimp only; omega
  · unfold evOf; dsimp only; omega
  · unfold evOf; dsimp only; omega
  · rw [hsz]; exact Nat.le_refl _
  · intro b h; rw [hsz] at h; unfold xOf; omega
  · exact up _ _ ((((Bk.new' _ _ _ (w.heap.size + 3) (by simp)).al _).al _).al _)
  · exact up _ _ ((((((Bk.new w _ _).al _).al _).al _).al _).al _ |>.al _)
  · exact up _ _ (((((Bk.new' _ _ _ (w.heap.size + 1) (by simp)).al _).al _).al _).al _ |>.al _)
  · exact Bk.new' _ _ _ (w.heap.size + 7) s7
  · exact up _ _ (Bk.new' _ _ _ (w.heap.size + 6) (by simp))
  · exact up _ _ ((Bk.new' _ _ _ (w.heap.size + 5) (by simp)).al _)
  · exact up _ _ (((Bk.new' _ _ _ (w.heap.size + 4) (by simp)).al _).al _)
  · have h := CM.made ((w.alloc (.cells #[lv] 24)).alloc (.cells #[tv] 66))
    have e : ((w.alloc (.cells #[lv] 24)).alloc (.cells #[tv] 66)).heap.size = w.heap.size + 2 := by simp
    rw [e] at h
    refine h.blk ?_
    have q : Below (w.heap.size + 3) (((w.alloc (.cells #[lv] 24)).alloc (.cells #[tv] 66)).alloc (.map #[] 0)) (wOf w lv tv) := (((((Below.refl _ _).alloc (by simp) _).alloc (by simp) _).alloc (by simp) _).alloc (by simp) _).alloc (by show _ ≤ (wOf7 w lv tv).heap.size; omega) _
    exact q.block (w.heap.size + 2) (by omega)
set_option maxRecDepth 100000 in
set_option maxHeartbeats 1600000 in
theorem pfollower_any (a1 a2 : Option Addr) (n1 c1 n2 c2 : Nat) (w : World) : Calls Tryz.prog 32 #[.slice a1 n1 c1, .slice a2 n2 c2] w fun e w' => e = .returned (clo2 w.heap.size) ∧ w' = wOf w (.slice a1 n1 c1) (.slice a2 n2 c2) := by
  have hmm := @run_makeMap Tryz.prog
  have hsf : ∀ (fn : Fn) (x y : Array Value) (a : Addr) (m : Mode) (w : World), (store a (.func fn x y) m).run Tryz.prog w = stored Tryz.prog w a (.func fn x y) m := fun fn x y a m w => run_store Tryz.prog w a _ m rfl
  have hmf : ∀ (fn : Fn) (first cap : Array Value) (w : World), (Instr.makeFunc fn first cap).run Tryz.prog w = .ok (.func fn first cap) w := fun _ _ _ _ => rfl
  obtain ⟨P, hP⟩ : ∃ P : Ending → World → Prop, P = fun e w' => e = .returned (clo2 w.heap.size) ∧ w' = wOf w (.slice a1 n1 c1) (.slice a2 n2 c2) := ⟨_, rfl⟩
  rw [← hP]
  have HP := hid_intro hP
  have s7 : (wOf7 w (.slice a1 n1 c1) (.slice a2 n2 c2)).heap.size = w.heap.size + 7 := by unfold wOf7; simp
  have c0 := (Bk.new' (wOf7 w (.slice a1 n1 c1) (.slice a2 n2 c2)) #[.nilFunc] 101 (w.heap.size + 1 + 1 + 1 + 1 + 1 + 1 + 1) s7).q1
  have d0 := (Bk.new' (wOf7 w (.slice a1 n1 c1) (.slice a2 n2 c2)) #[.nilFunc] 101 (w.heap.size + 1 + 1 + 1 + 1 + 1 + 1 + 1) s7).frz 0
  unfold wOf7 at c0 d0
  rw [show w.heap.size + 2 = w.heap.size + 1 + 1 from rfl] at c0 d0
  clear hP s7
  go_enter Tryz.func32, Tryz.ntmps32
  go_wp2_with fail
  rw [HP.out]
  exact ⟨rfl, rfl⟩
/-- What is read. -/
def readE (L : List ST) (s : ByteArray) : Int := if nfaB L = true then (if goodS s = true then 0 else 10) else 101
set_option maxRecDepth 100000 in
set_option maxHeartbeats 1600000 in
theorem read_no (L : List ST) (hr : ∀ s ∈ L, s.r.length ≤ 1099511627776) (s : ByteArray) (hs : s.size ≤ 1099511627776) (lv : Value) (w : World) (hT : Tab w) (X : Nat → Prop) (hS : SI w X L lv) (h : readE L s ≠ 0) :
    Calls Tryz.prog 31 #[lv, .string s] w fun e w' => e = .returned (.tuple #[.slice none 0 0, .int .i64 (readE L s)]) ∧ Below w.heap.size w w' := by
  have hc := nfaCheck_any L lv w X hS hr
  obtain ⟨P, hP⟩ : ∃ P : Ending → World → Prop, P = fun e w' => e = .returned (.tuple #[.slice none 0 0, .int .i64 (readE L s)]) ∧ Below w.heap.size w w' := ⟨_, rfl⟩
  rw [← hP]
  have HP := hid_intro hP
  obtain ⟨a1, c1, rfl, _⟩ := id hS
  cases hn : nfaB L
  · have HE : Hid (readE L s = 101) := hid_intro (by unfold readE; rw [hn]; rfl)
    rw [hn, if_neg Bool.false_ne_true] at hc
    clear hP hS hT hr hs h hn
    go_enter Tryz.func31, Tryz.ntmps31
    go_wp2_with fail
    refine hc.mono ?_; rintro e w1 ⟨rfl, hb1⟩
    go_wp2_with fail
    rw [HP.out, HE.out]
    exact ⟨rfl, hb1⟩
  · cases hg : goodS s
    · have HE : Hid (readE L s = 10) := hid_intro (by unfold readE; rw [hn, hg]; rfl)
      rw [hn, if_pos rfl] at hc
      have hcv : ∀ w', (convert 9 35 (.string s)).run Tryz.prog w' = _ := fun w' => conv_str w' s
      have HN := hid_intro (fun w1 (hb1 : Below w.heap.size w w1) => points_none _ _ _ (Lib.bytesWorld w1 5 s) ((hT.below hb1).below (bl_bytes w1 s)) (byt_str w1 s (by unfold maxLen; omega)) hg)
      clear hP hS hT hr hs h hn hg
      go_enter Tryz.func31, Tryz.ntmps31
      go_wp2_with fail
      refine hc.mono ?_; rintro e w1 ⟨rfl, hb1⟩
      have hp := HN.out w1 hb1
      have HB := hid_intro (vb_t hb1 (bl_bytes w1 s))
      clear hc hb1
      go_wp2_with fail
      refine hp.mono ?_; rintro e w2 ⟨rfl, q, rfl⟩
      go_wp2_with fail
      rw [HP.out, HE.out]
      exact ⟨rfl, ⟨HB.out.os, HB.out.tape, HB.out.output, HB.out.size, HB.out.block⟩⟩
    · exact absurd (by unfold readE; rw [hn, hg]; rfl) h
set_option maxRecDepth 100000 in
set_option maxHeartbeats 1600000 in
theorem read_ok (L : List ST) (hr : ∀ s ∈ L, s.r.length ≤ 1099511627776) (s : ByteArray) (hs : s.size ≤ 1099511627776) (lv : Value) (w : World) (hT : Tab w) (X : Nat → Prop) (hS : SI w X L lv) (hn : nfaB L = true) (hg : goodS s = true) :
    Calls Tryz.prog 31 #[lv, .string s] w fun e w' => ∃ v, e = .returned (.tuple #[v, .int .i64 0]) ∧ OwnI w' w.heap.size v (ptsS s) ∧ Below w.heap.size w w' := by
  have hc := nfaCheck_any L lv w X hS hr
  rw [hn, if_pos rfl] at hc
  obtain ⟨P, hP⟩ : ∃ P : Ending → World → Prop, P = fun e w' => ∃ v, e = .returned (.tuple #[v, .int .i64 0]) ∧ OwnI w' w.heap.size v (ptsS s) ∧ Below w.heap.size w w' := ⟨_, rfl⟩
  rw [← hP]
  have HP := hid_intro hP
  obtain ⟨a1, c1, rfl, _⟩ := id hS
  have hcv : ∀ w', (convert 9 35 (.string s)).run Tryz.prog w' = _ := fun w' => conv_str w' s
  have hsl : s.data.toList.length ≤ 17592186044416 := by
    have e : s.data.toList.length = s.size := Array.length_toList
    omega
  have HN := hid_intro (fun w1 (hb1 : Below w.heap.size w w1) => points_some _ _ _ (Lib.bytesWorld w1 5 s) ((hT.below hb1).below (bl_bytes w1 s)) (byt_str w1 s (by unfold maxLen; omega)) (bx_lo _) (bx_hi _) hsl hg)
  have HBD := hid_intro (ptsS_bd s hg)
  clear hP hS hT hr hs hn hg hsl
  go_enter Tryz.func31, Tryz.ntmps31
  go_wp2_with fail
  refine hc.mono ?_; rintro e w1 ⟨rfl, hb1⟩
  have hp := HN.out w1 hb1
  have HB := hid_intro (vb_t hb1 (bl_bytes w1 s))
  clear hc hb1
  go_wp2_with fail
  refine hp.mono ?_; rintro e w2 ⟨v, rfl, ho, hb2⟩
  go_wp2_with fail
  rw [HP.out]
  exact ⟨v, rfl, ⟨own_mono ho HB.out.size, fun x hx => by have := HBD.out x hx; exact ⟨by omega, by omega⟩⟩, vb_t HB.out hb2⟩
end Go.Proofs.YtoinlmfodmgohaaGreatDoor

namespace Go.Proofs.YtoinlmfodmgohaaGreatDoor
open Go.RowKit Go.Maps

/-- The states at a place. -/
def Rs (L : List ST) (t : List Int) (each : Bool) : Nat → Int → Prop
  | 0 => Rch L (letsB t 0) (fun y => y = 0)
  | P + 1 => Rch L (letsB t (P + 1)) (fun y => (each = true ∧ y = 0) ∨ ∃ z, Rs L t each P z ∧ goB L (ia t P) z = true ∧ y = (sx L z).a)
def FrN (L : List ST) (t : List Int) (each : Bool) : Nat → Int → Prop
  | 0, _ => False
  | P + 1, y => ∃ z, Rs L t each P z ∧ goB L (ia t P) z = true ∧ y = (sx L z).a
theorem Rch.sub {L : List ST} {g : Int → Bool} {F G : Int → Prop} (h : ∀ y, F y → G y) {x : Int} (hx : Rch L g F x) : Rch L g G x := by
  induction hx with
  | base hx => exact .base (h _ hx)
  | a _ hg ih => exact .a ih hg
  | b _ hk ih => exact .b ih hk
theorem Rch.congr {L : List ST} {g : Int → Bool} {F G : Int → Prop} (h : ∀ y, F y ↔ G y) (x : Int) : Rch L g F x ↔ Rch L g G x := ⟨Rch.sub fun y => (h y).1, Rch.sub fun y => (h y).2⟩
theorem Rs_eq (L : List ST) (t : List Int) (each : Bool) (P : Nat) (x : Int) : Rs L t each P x ↔ Rch L (letsB t P) (fun y => (y = 0 ∧ (P = 0 ∨ each = true)) ∨ FrN L t each P y) x := by
  cases P with
  | zero => exact Rch.congr (fun y => by simp [FrN]) x
  | succ P => exact Rch.congr (fun y => by simp only [FrN]; constructor; · rintro (⟨h1, h2⟩ | h); exact Or.inl ⟨h2, Or.inr h1⟩; exact Or.inr h
                                           · rintro (⟨h1, h2⟩ | h); exact Or.inl ⟨h2.resolve_left (by omega), h1⟩; exact Or.inr h) x
theorem Rch.inl {L : List ST} (hL : VS L) {g : Int → Bool} (hg : GG g) {F : Int → Prop} (hF : ∀ y, F y → InL L y) {x : Int} (hx : Rch L g F x) : InL L x := by
  induction hx with
  | base hx => exact hF _ hx
  | a _ h ih => exact (hL.at ih).1 (by have := hg.2 _ h; omega)
  | b _ h ih => exact (hL.at ih).2 h
theorem goB_inl {L : List ST} (hL : VS L) {p z : Int} (hz : InL L z) (h : goB L p z = true) : InL L (sx L z).a := by
  unfold goB at h
  rw [Bool.and_eq_true, decide_eq_true_iff] at h
  exact (hL.at hz).1 (Or.inl h.1)
theorem Rs_inl {L : List ST} (hL : VS L) (t : List Int) (each : Bool) : ∀ P x, Rs L t each P x → InL L x
  | 0, x, h => Rch.inl hL (letsB_gg t 0) (fun y hy => by subst hy; exact ⟨by omega, by have := hL.1; omega⟩) h
  | P + 1, x, h => Rch.inl hL (letsB_gg t (P + 1)) (fun y hy => by
    rcases hy with ⟨_, rfl⟩ | ⟨z, hz, hgo, rfl⟩
    · exact ⟨by omega, by have := hL.1; omega⟩
    · exact goB_inl hL (Rs_inl hL t each P z hz) hgo) h
theorem FrN_inl {L : List ST} (hL : VS L) (t : List Int) (each : Bool) (P : Nat) (y : Int) (h : FrN L t each P y) : InL L y := by
  cases P with
  | zero => exact h.elim
  | succ P =>
    obtain ⟨z, hz, hgo, rfl⟩ := h
    exact goB_inl hL (Rs_inl hL t each P z hz) hgo
/-- How many states there were ahead of a place. -/
def Stp (L : List ST) (t : List Int) (each : Bool) : Nat → Nat → Prop
  | 0, s => s = 0
  | P + 1, s => ∃ a c, Stp L t each P a ∧ Cnt (Rs L t each P) c ∧ s = a + c
def Dn (L : List ST) (t : List Int) (each : Bool) (P : Nat) : Prop := ∃ x, Rs L t each P x ∧ isD L x = true
/-- What a search answers. -/
def SrR (L : List ST) (t : List Int) (b : Bool) (n : Nat) : Prop := ∃ Q, Q ≤ t.length ∧ Stp L t true (Q + 1) n ∧ ((b = true ∧ Dn L t true Q ∧ ∀ P, P < Q → ¬ Dn L t true P) ∨ (b = false ∧ Q = t.length ∧ ∀ P, P ≤ Q → ¬ Dn L t true P))
theorem Stp.uniq {L : List ST} {t : List Int} {each : Bool} : ∀ {P a b : Nat}, Stp L t each P a → Stp L t each P b → a = b
  | 0, a, b, h, h' => by rw [h, h']
  | P + 1, _, _, ⟨a, c, h1, h2, e⟩, ⟨a', c', h1', h2', e'⟩ => by rw [e, e', Stp.uniq h1 h1', h2.uniq h2']
theorem SrR.uniq {L : List ST} {t : List Int} {b b' : Bool} {n n' : Nat} (h : SrR L t b n) (h' : SrR L t b' n') : b = b' ∧ n = n' := by
  obtain ⟨Q, hQ, hs, hc⟩ := h
  obtain ⟨Q', hQ', hs', hc'⟩ := h'
  have e : Q = Q' ∧ b = b' := by
    rcases hc with ⟨e1, d1, m1⟩ | ⟨e1, d1, m1⟩ <;> rcases hc' with ⟨e2, d2, m2⟩ | ⟨e2, d2, m2⟩
    · refine ⟨?_, by rw [e1, e2]⟩
      rcases Nat.lt_trichotomy Q Q' with h | h | h
      · exact absurd d1 (m2 Q h)
      · exact h
      · exact absurd d2 (m1 Q' h)
    · exact absurd d1 (m2 Q (by omega))
    · exact absurd d2 (m1 Q' (by omega))
    · exact ⟨by omega, by rw [e1, e2]⟩
  obtain ⟨rfl, rfl⟩ := e
  exact ⟨rfl, hs.uniq hs'⟩
theorem Cnt.le {L : List ST} (hL : VS L) {t : List Int} {each : Bool} {P c : Nat} (h : Cnt (Rs L t each P) c) : c ≤ L.length := by
  obtain ⟨H, h1, h2, rfl⟩ := h
  exact pig _ _ h1 (fun x hx => Rs_inl hL t each P x ((h2 x).1 hx))
theorem Stp.le {L : List ST} (hL : VS L) {t : List Int} {each : Bool} : ∀ {P s : Nat}, Stp L t each P s → s ≤ P * L.length
  | 0, s, h => by rw [h]; omega
  | P + 1, _, ⟨a, c, h1, h2, rfl⟩ => by
    have := Stp.le hL h1
    have := Cnt.le hL h2
    rw [Nat.succ_mul]
    omega
theorem Stp.pos {L : List ST} {t : List Int} {each : Bool} : ∀ {P s : Nat}, Stp L t each (P + 1) s → 1 ≤ s
  | 0, _, ⟨a, c, h1, ⟨H, _, h3, h4⟩, rfl⟩ => by
    have : (0 : Int) ∈ H := (h3 0).2 (.base rfl)
    have := List.length_pos_of_mem this
    omega
  | P + 1, _, ⟨a, c, h1, h2, rfl⟩ => by have := Stp.pos h1; omega
/-- States that may be. -/
theorem vs_of {L : List ST} (h : nfaB L = true) : VS L := by
  unfold nfaB at h
  rw [Bool.and_eq_true, decide_eq_true_iff, List.all_eq_true] at h
  refine ⟨by omega, fun s hs => ?_⟩
  have hb := h.2 s hs
  unfold stB at hb
  unfold InL
  by_cases k1 : s.k = 1
  · rw [if_pos k1] at hb
    simp only [inB, Bool.and_eq_true, decide_eq_true_eq] at hb
    exact ⟨fun _ => by omega, fun e => by omega⟩
  rw [if_neg k1] at hb
  by_cases k2 : s.k = 2
  · rw [if_pos k2] at hb
    simp only [inB, Bool.and_eq_true, decide_eq_true_eq] at hb
    exact ⟨fun _ => by omega, fun e => by omega⟩
  rw [if_neg k2] at hb
  by_cases k3 : s.k = 3 ∨ s.k = 4 ∨ s.k = 5 ∨ s.k = 6
  · rw [if_pos k3] at hb
    simp only [inB, Bool.and_eq_true, decide_eq_true_eq] at hb
    exact ⟨fun _ => by omega, fun e => by omega⟩
  · exact ⟨fun e => by omega, fun e => by omega⟩
theorem rs_of {L : List ST} (h : nfaB L = true) (hok : ∀ s ∈ L, s.ok) (hr : ∀ s ∈ L, s.r.length ≤ 1048576) : RS L := by
  unfold nfaB at h
  rw [Bool.and_eq_true, decide_eq_true_iff, List.all_eq_true] at h
  intro s hs
  refine ⟨hok s hs, hr s hs, fun i hi => ?_⟩
  have hb := h.2 s hs
  unfold stB at hb
  by_cases k1 : s.k = 1
  · rw [if_pos k1] at hb
    simp only [rgB, Bool.and_eq_true, decide_eq_true_eq] at hb
    exact hb.2 i hi
  rw [if_neg k1] at hb
  exfalso
  by_cases k2 : s.k = 2
  · rw [if_pos k2] at hb
    simp only [Bool.and_eq_true, decide_eq_true_eq] at hb
    omega
  rw [if_neg k2] at hb
  by_cases k3 : s.k = 3 ∨ s.k = 4 ∨ s.k = 5 ∨ s.k = 6
  · rw [if_pos k3] at hb
    simp only [Bool.and_eq_true, decide_eq_true_eq] at hb
    omega
  rw [if_neg k3] at hb
  by_cases k7 : s.k = 7
  · rw [if_pos k7] at hb
    simp only [Bool.and_eq_true, decide_eq_true_eq] at hb
    omega
  · rw [if_neg k7] at hb; cases hb
theorem F0.keep {w w' : World} {X : Nat → Prop} {e : EV} {L : List ST} {t : List Int} {p : Nat} {vh : Value} (h : F0 w X e L t p vh) (hb : But X w w') (hk : ∀ b, (b < e.B ∨ vh.ownBlock = some b) → b < w.heap.size → w'.heap[b]? = w.heap[b]?) : F0 w' X e L t p vh := by
  obtain ⟨fx, ⟨y, kp⟩, ⟨vw, kw⟩, kh, ⟨l, oh⟩, xh, ⟨cnt, c, hcm, hcn, hcx⟩⟩ := h
  have key : ∀ b cs, Bk w b cs → b < e.B → Bk w' b cs := fun b cs ⟨T, hT⟩ hlt => ⟨T, (hk b (Or.inl hlt) (Bk.lt ⟨T, hT⟩)).trans hT⟩
  exact ⟨fx.but hb, ⟨y, key _ _ kp fx.lo.1⟩, ⟨vw, key _ _ kw fx.lo.2.1⟩, key _ _ kh fx.lo.2.2.1, ⟨l, oh.blk fun g hg => hk g (Or.inr hg) (oh.lt hg).2⟩, xh, ⟨cnt, c, hcm.blk (hk _ (Or.inl fx.lo.2.2.2) hcm.lt), hcn, hcx⟩⟩
theorem II.drop {w : World} {X : Nat → Prop} {t : List Int} {g cap : Nat} {off : Nat} (h : II w X t (.slice (some ⟨g, off, none⟩) t.length cap)) {P : Nat} (hP : P < t.length) : II w X (t.drop P) (.slice (some ⟨g, off + P, none⟩) (t.length - P) (cap - P)) := by
  obtain ⟨ao, cap', e, h1, h2, h3, h4⟩ := h
  injection e with e1 _ e3
  subst e1 e3
  have hl : (t.drop P).length = t.length - P := List.length_drop
  refine ⟨some ⟨g, off + P, none⟩, cap - P, by rw [hl], by rw [hl]; omega, by omega, fun x hx => h3 x (List.mem_of_mem_drop hx), ?_⟩
  rcases h4 with rfl | ⟨b, off', e, hx, hc⟩
  · simp at hP
  · injection e with e
    injection e with e1 e2 _
    subst e1 e2
    refine Or.inr ⟨g, off + P, rfl, hx, fun i hi => ?_⟩
    have := hc (P + i) (by omega)
    rw [← Nat.add_assoc] at this
    rw [this]
    unfold ia
    rw [List.getD_eq_getElem?_getD, List.getD_eq_getElem?_getD, List.getElem?_drop]
theorem OwnI.mono {w : World} {B B' : Nat} {v : Value} {l : List Int} (h : OwnI w B v l) (hb : B' ≤ B) : OwnI w B' v l := ⟨own_mono h.1 hb, h.2⟩
end Go.Proofs.YtoinlmfodmgohaaGreatDoor

namespace Go.Proofs.YtoinlmfodmgohaaGreatDoor

/-- A way from a state at a place to another. -/
inductive Way (L : List ST) (t : List Int) : Int → Nat → Int → Nat → Prop
  | here (x : Int) (p : Nat) : Way L t x p x p
  | a {x y : Int} {p q : Nat} (h : Way L t x p y q) (hg : letsB t q (sx L y).k = true) : Way L t x p (sx L y).a q
  | b {x y : Int} {p q : Nat} (h : Way L t x p y q) (hk : (sx L y).k = 2) : Way L t x p (sx L y).b q
  | eat {x y : Int} {p q : Nat} (h : Way L t x p y q) (hq : q < t.length) (hg : goB L (ia t q) y = true) : Way L t x p (sx L y).a (q + 1)
theorem Way.le {L : List ST} {t : List Int} {x y : Int} {p q : Nat} (h : Way L t x p y q) : p ≤ q := by
  induction h with
  | here => exact Nat.le_refl _
  | a _ _ ih => exact ih
  | b _ _ ih => exact ih
  | eat _ _ _ ih => omega
theorem Way.trans {L : List ST} {t : List Int} {x y z : Int} {p q r : Nat} (h : Way L t x p y q) (k : Way L t y q z r) : Way L t x p z r := by
  induction k with
  | here => exact h
  | a _ hg ih => exact .a (ih h) hg
  | b _ hk ih => exact .b (ih h) hk
  | eat _ hq hg ih => exact .eat (ih h) hq hg
/-- A state is at a place, if and only if a way leads there from the first state. -/
theorem rs_way (L : List ST) (t : List Int) (each : Bool) : ∀ (P : Nat), P ≤ t.length → ∀ x, Rs L t each P x ↔ ∃ p0, p0 ≤ P ∧ (each = true ∨ p0 = 0) ∧ Way L t 0 p0 x P := by
  have back : ∀ (p0 : Nat) (x : Int) (P : Nat), (each = true ∨ p0 = 0) → Way L t 0 p0 x P → Rs L t each P x := by
    intro p0 x P he h
    induction h with
    | here p =>
      cases p with
      | zero => exact .base rfl
      | succ p =>
        rcases he with he | he
        · exact .base (Or.inl ⟨he, rfl⟩)
        · omega
    | @a y p q h hg ih =>
      have := ih he
      cases q with
      | zero => exact .a this hg
      | succ q => exact .a this hg
    | @b y p q h hk ih =>
      have := ih he
      cases q with
      | zero => exact .b this hk
      | succ q => exact .b this hk
    | @eat y p q h hq hg ih => exact .base (Or.inr ⟨y, ih he, hg, rfl⟩)
  have forth : ∀ (P : Nat), P ≤ t.length → ∀ x, Rs L t each P x → ∃ p0, p0 ≤ P ∧ (each = true ∨ p0 = 0) ∧ Way L t 0 p0 x P := by
    intro P
    induction P with
    | zero =>
      intro _ x h
      rw [Rs] at h
      induction h with
      | base h => exact ⟨0, Nat.le_refl _, Or.inr rfl, by rw [h]; exact .here _ _⟩
      | a _ hg ih => obtain ⟨p0, h1, h2, h3⟩ := ih; exact ⟨p0, h1, h2, .a h3 hg⟩
      | b _ hk ih => obtain ⟨p0, h1, h2, h3⟩ := ih; exact ⟨p0, h1, h2, .b h3 hk⟩
    | succ P ihP =>
      intro hP x h
      rw [Rs] at h
      induction h with
      | base h =>
        rcases h with ⟨he, rfl⟩ | ⟨z, hz, hg, rfl⟩
        · exact ⟨P + 1, Nat.le_refl _, Or.inl he, .here _ _⟩
        · obtain ⟨p0, h1, h2, h3⟩ := ihP (by omega) z hz
          exact ⟨p0, by omega, h2, .eat h3 (by omega) hg⟩
      | a _ hg ih => obtain ⟨p0, h1, h2, h3⟩ := ih; exact ⟨p0, h1, h2, .a h3 hg⟩
      | b _ hk ih => obtain ⟨p0, h1, h2, h3⟩ := ih; exact ⟨p0, h1, h2, .b h3 hk⟩
  exact fun P hP x => ⟨forth P hP x, fun ⟨p0, _, h2, h3⟩ => back p0 x P h2 h3⟩
/-- Whether something matches. -/
theorem sr_way {L : List ST} {t : List Int} {b : Bool} {n : Nat} (h : SrR L t b n) : b = true ↔ ∃ p q x, q ≤ t.length ∧ Way L t 0 p x q ∧ isD L x = true := by
  obtain ⟨Q, hQ, _, hc⟩ := h
  rcases hc with ⟨rfl, ⟨x, hx, hd⟩, _⟩ | ⟨rfl, rfl, hnd⟩
  · obtain ⟨p0, _, _, h3⟩ := (rs_way L t true Q hQ x).1 hx
    exact ⟨fun _ => ⟨p0, Q, x, hQ, h3, hd⟩, fun _ => rfl⟩
  · refine ⟨fun e => (by cases e), fun ⟨p, q, x, hq, hw, hd⟩ => ?_⟩
    exact absurd ⟨x, (rs_way L t true q hq x).2 ⟨p, hw.le, Or.inl rfl, hw⟩, hd⟩ (hnd q hq)
end Go.Proofs.YtoinlmfodmgohaaGreatDoor

namespace Go.Proofs.YtoinlmfodmgohaaGreatDoor
open Go.RowKit
attribute [local go_sem] setCell_drewN alloc_drewN

/-- The cells of a row of states, with the values of their ranges. -/
def flatS (M : List (ST × Value)) : List Value := M.flatMap fun p => [.int .i64 p.1.k, p.2, .int .i64 p.1.a, .int .i64 p.1.b]
theorem flatS_len (M : List (ST × Value)) : (flatS M).length = M.length * 4 := by
  induction M with
  | nil => rfl
  | cons p M ih => simp only [flatS, List.flatMap_cons, List.length_append, List.length_cons, List.length_nil] at ih ⊢; omega
theorem flatS_append (M N : List (ST × Value)) : flatS (M ++ N) = flatS M ++ flatS N := by simp [flatS]
theorem flatS_at (M : List (ST × Value)) : ∀ (i : Nat) (h : i < M.length), (flatS M)[i * 4]? = some (.int .i64 M[i].1.k) ∧ (flatS M)[i * 4 + 1]? = some M[i].2 ∧ (flatS M)[i * 4 + 2]? = some (.int .i64 M[i].1.a) ∧ (flatS M)[i * 4 + 3]? = some (.int .i64 M[i].1.b) := by
  induction M with
  | nil => intro i h; simp at h
  | cons p M ih =>
    intro i h
    cases i with
    | zero => exact ⟨rfl, rfl, rfl, rfl⟩
    | succ i =>
      have e : ∀ j, (flatS (p :: M))[(i + 1) * 4 + j]? = (flatS M)[i * 4 + j]? := fun j => by
        have e1 : (i + 1) * 4 + j = (i * 4 + j) + 4 := by omega
        rw [e1]; rfl
      have := ih i (by simpa using h)
      exact ⟨(e 0).trans this.1, (e 1).trans this.2.1, (e 2).trans this.2.2.1, (e 3).trans this.2.2.2⟩
/-- The two blocks of a list. -/
def two (lb sb : Nat) : Nat → Prop := fun b => b = lb ∨ b = sb
/-- The list at lb, its states in the block sb. -/
def LS (w : World) (lb sb cap : Nat) (L : List ST) : Prop :=
  ∃ M : List (ST × Value), M.map Prod.fst = L ∧ w.cell? ⟨lb, 0, none⟩ = some (.slice (some ⟨sb, 0, none⟩) L.length cap) ∧ w.frozen? ⟨lb, 0, none⟩ = false ∧ lb ≠ sb ∧
    w.ownsRow 0 94 4 (.slice (some ⟨sb, 0, none⟩) L.length cap) L.length (flatS M) ∧ (∀ p ∈ M, RI w (two lb sb) p.1.r p.2) ∧ cap ≤ 65536
theorem LS.lt {w : World} {lb sb cap : Nat} {L : List ST} (h : LS w lb sb cap L) : lb < w.heap.size ∧ sb < w.heap.size := by
  obtain ⟨M, _, h1, _, _, h4, _⟩ := h
  exact ⟨World.block_lt_of_cell? w _ h1, (h4.lt sb rfl).2⟩
theorem LS.ne {w : World} {lb sb cap : Nat} {L : List ST} (h : LS w lb sb cap L) : lb ≠ sb := by
  obtain ⟨M, _, h1, _, h3, h4, _⟩ := h
  exact h3
theorem LS.len {w : World} {lb sb cap : Nat} {L : List ST} (h : LS w lb sb cap L) : L.length ≤ cap ∧ cap ≤ 65536 := by
  obtain ⟨M, _, h1, _, h3, h4, h5, h6⟩ := h
  refine ⟨?_, h6⟩
  rcases h4.2 with ⟨e, _⟩ | ⟨g, c, cur, e, _, _, hc, _⟩
  · cases e
  · injection e with _ _ e; omega
theorem LS.cell {w : World} {lb sb cap : Nat} {L : List ST} (h : LS w lb sb cap L) : w.cell? ⟨lb, 0, none⟩ = some (.slice (some ⟨sb, 0, none⟩) L.length cap) ∧ w.frozen? ⟨lb, 0, none⟩ = false := by
  obtain ⟨M, _, h1, h2, _⟩ := h
  exact ⟨h1, h2⟩
/-- Nothing but other blocks has changed. -/
theorem LS.carry {w w' : World} {lb sb cap : Nat} {L : List ST} (h : LS w lb sb cap L) {Y : Nat → Prop} (hb : But Y w w') (hY : ∀ b, Y b → w.heap.size ≤ b) : LS w' lb sb cap L := by
  have hlt := h.lt
  obtain ⟨M, h0, h1, h2, h3, h4, h5, h6⟩ := h
  have e1 : w'.heap[lb]? = w.heap[lb]? := hb.block lb hlt.1 (fun hy => by have := hY _ hy; omega)
  have e2 : w'.heap[sb]? = w.heap[sb]? := hb.block sb hlt.2 (fun hy => by have := hY _ hy; omega)
  refine ⟨M, h0, (World.cell?_of_block (w := w) (w' := w') e1).trans h1, ?_, h3, ?_, fun p hp => (h5 p hp).carry (fun b hx hl => ⟨hb.block b hl (fun hy => by have := hY _ hy; omega), hx⟩), h6⟩
  · rw [← h2]; simp only [World.frozen?, e1]
  · refine ⟨h4.1, ?_⟩
    rcases h4.2 with h | ⟨g, c, cur, e, hb', hg, hrest⟩
    · exact Or.inl h
    · refine Or.inr ⟨g, c, cur, e, hb', ?_, hrest⟩
      obtain rfl : sb = g := by injection e with e _ _; injection e with e; injection e
      rw [e2]; exact hg
theorem LS.below {w w' : World} {lb sb cap : Nat} {L : List ST} (h : LS w lb sb cap L) (hb : Below w.heap.size w w') : LS w' lb sb cap L :=
  h.carry (Y := fun _ => False) (But.ofBelow hb) (fun _ hf => hf.elim)
theorem infoState : (Tryz.prog.info? 94).map (fun i => (i.zero, i.size, i.bytes)) = some (some (.agg #[.int .i64 0, .slice none 0 0, .int .i64 0, .int .i64 0]), 4, 48) := by kernel_rfl
/-- Append of a state where there is room, in a region that draws. -/
theorem step_append_st {w : World} {ops : Array Oper} {o : Oper} {a : Act} {K : Act → World → Prop} {Q : Exit → Act → World → Prop} {E : Prop} (hgd : o.guard = none) (s x : Operand)
    (ho : o.op = .call { callee := .builtin .append, args := #[s, x], argTypes := #[24, 24] }) (sb n cap : Nat) (xs : List Value) (hs : a.eval s = .slice (some ⟨sb, 0, none⟩) n cap)
    (t : Nat) (c0 c1 c2 c3 : Value) (hx : a.eval x = .slice (some ⟨t, 0, none⟩) 1 1) (hroom : n + 1 ≤ cap) (hone : c0.oneCell' = true ∧ c1.oneCell' = true ∧ c2.oneCell' = true ∧ c3.oneCell' = true)
    (hT : Bk w t #[c0, c1, c2, c3]) (hown : w.ownsRow 0 94 4 (.slice (some ⟨sb, 0, none⟩) n cap) n xs)
    (h : ∀ w', w'.ownsRow 0 94 4 (.slice (some ⟨sb, 0, none⟩) (n + 1) cap) (n + 1) (xs ++ [c0, c1, c2, c3]) → w.grownBy w' (some sb) → K (a.put o.dst (.slice (some ⟨sb, 0, none⟩) (n + 1) cap)) w') :
    if Region.wanted o (yielded ops a.tmps) = true then Oper.wp Tryz.prog o a w K Q else E := by
  have hw : Region.wanted o (yielded ops a.tmps) = true := by simp [Region.wanted, hgd]
  rw [if_pos hw]
  obtain ⟨i0, hi, hz0, hz1, hz2⟩ := info_parts infoState
  obtain ⟨w', hrun, r1, r2⟩ := run_append_fits (P := Tryz.prog) w 0 24 o.type 94 i0 4 Tryz.underlying24 hi hz1 sb n cap xs hown ⟨t, 0, none⟩ 1 1 [c0, c1, c2, c3] rfl (fun j u hj => by
    rw [add_at, hT.cell]
    match j, hj with
    | 0, hj => exact hj
    | 1, hj => exact hj
    | 2, hj => exact hj
    | 3, hj => exact hj) (fun u hu => by
    simp at hu
    rcases hu with rfl | rfl | rfl | rfl
    · exact hone.1
    · exact hone.2.1
    · exact hone.2.2.1
    · exact hone.2.2.2) hroom
  unfold Oper.wp
  simp [execOp, ho, resolve, invoke, builtin, hs, hx, hrun, Result.andThen]
  exact h w' r1 r2
set_option maxRecDepth 100000 in
theorem next_any (lb sb cap : Nat) (L : List ST) (w : World) (h : LS w lb sb cap L) :
    Calls Tryz.prog 129 #[.pointer (some ⟨lb, 0, none⟩)] w fun r w' => r = .returned (.int .i64 (L.length : Int)) ∧ Below w.heap.size w w' := by
  have hc := h.cell.1
  go_enter Tryz.func129, Tryz.ntmps129
  go_wp2_with fail
  go_ret
  exact ⟨rfl, Below.refl _ _⟩
set_option maxRecDepth 100000 in
theorem clone_any (l : List (Int × Int)) (v : Value) (X : Nat → Prop) (w : World) (hR : RI w X l v) (hl : l.length ≤ 1099511627776) :
    Calls Tryz.prog 128 #[v] w fun r w' => ∃ v', r = .returned v' ∧ OwnR w' w.heap.size v' l ∧ Below w.heap.size w w' := by
  have q : ∀ (w : World) (a : Option Addr) (n c n' c' : Nat), (binOp .eql 22 (.slice a n c) (.slice none n' c')).run Tryz.prog w = .ok (.bool a.isNone) w := fun w a n c n' c' => Lib.run_eql_slice_nil w _ _ a n c n' c' Tryz.underlying22
  obtain ⟨ao, cap, rfl, h1, h2, h3, h4⟩ := hR
  cases ao with
  | none =>
    have hk : l = [] := by
      rcases h4 with h4 | ⟨b, off, h5, _⟩
      · exact h4
      · cases h5
    subst hk
    go_enter Tryz.func128, Tryz.ntmps128
    go_wp2
    go_ret
    exact ⟨_, rfl, OwnR.nil _ _, Below.refl _ _⟩
  | some a =>
    obtain ⟨i0, hi, hz0, hz1, hz2⟩ := info_parts infoRange
    have hmade : (w.alloc (.cells #[] 40)).ownsRow w.heap.size 40 2 (.slice (some ⟨w.heap.size, 0, none⟩) 0 0) 0 [] := World.ownsRow_made w #[] 0 (Nat.le_refl _) (Nat.zero_le _) rfl
    have hnews : ∀ j u, (flat l)[j]? = some u → (w.alloc (.cells #[] 40)).cell? (a.add j) = some u := fun j u hu => by
      have hj : j < l.length * 2 := by have := (List.getElem?_eq_some_iff.1 hu).1; rwa [flat_len] at this
      have hd : j / 2 < l.length := by omega
      have fa := flat_at l (j / 2) hd
      rcases h4 with h4 | ⟨b, off, h5, _, h7⟩
      · rw [h4] at hd; exact absurd hd (by simp)
      · obtain rfl := Option.some.inj h5
        have h8 := h7 (j / 2) hd
        rcases Nat.mod_two_eq_zero_or_one j with hm | hm
        · have e : j / 2 * 2 = j := by omega
          rw [e] at fa h8
          rw [add_at, World.cell?_alloc_past _ _ _ (World.block_lt_of_cell? w _ h8.1), h8.1, ← fa.1, hu]
        · have e : j / 2 * 2 + 1 = j := by omega
          have e2 : off + j / 2 * 2 + 1 = off + j := by omega
          rw [e] at fa
          rw [e2] at h8
          rw [add_at, World.cell?_alloc_past _ _ _ (World.block_lt_of_cell? w _ h8.2), h8.2, ← fa.2, hu]
    have hone : ∀ u ∈ flat l, u.oneCell' = true := fun u hu => by
      simp only [flat, List.mem_flatMap] at hu
      obtain ⟨r, _, hu⟩ := hu
      simp at hu
      rcases hu with rfl | rfl <;> rfl
    clear h1 h2 h4
    go_enter Tryz.func128, Tryz.ntmps128
    go_wp2_with (at_builtin; refine wpList_append_own _ rfl (.tmp 5) (.tmp 6) 22 rfl w.heap.size 40 i0 (.agg #[.int .i64 0, .int .i64 0]) 2 16 Tryz.underlying22 hi hz0 hz1 hz2 rfl (by decide) _ 0 [] rfl hmade a l.length cap (flat l) rfl (flat_len l) hnews hone (by unfold maxLen; omega) (by omega) (by simp) ?_)
    intro v' w' g1 g2 _
    have hb : Below w.heap.size w w' := (vb_a (Below.refl _ _) _).grown g2 (by simp) (fun j hj => (World.ownsRow.lt hmade j hj).1)
    have ho : OwnR w' w.heap.size v' l := ⟨by simpa using g1, h3⟩
    clear g1 g2 hnews hmade hone
    go_wp2
    go_ret
    exact ⟨_, rfl, ho, hb⟩
end Go.Proofs.YtoinlmfodmgohaaGreatDoor
