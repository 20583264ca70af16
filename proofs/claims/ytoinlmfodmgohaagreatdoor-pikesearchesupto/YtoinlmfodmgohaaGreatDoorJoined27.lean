/-
  The follower's beginning; what is read; the end of a text. Conditions: the table of greatest code points holds its four numbers; there is room.
  The search, as the document says it. No condition.
-/
import Derived.Test.YtoinlmfodmgohaaGreatDoorJoined10
import Derived.Test.YtoinlmfodmgohaaGreatDoorJoined23
import Derived.Test.YtoinlmfodmgohaaGreatDoorJoined26
namespace Go.Proofs.YtoinlmfodmgohaaGreatDoor
open Go.RowKit Go.Maps
attribute [local go_sem] setCell_drewN alloc_drewN

set_option maxRecDepth 100000 in
set_option maxHeartbeats 1600000 in
theorem pnext_nil (lv hv : Value) (ao : Option Addr) (c : Nat) (w : World) : Calls Tryz.prog 35 #[lv, hv, .slice ao 0 c] w fun e w' => e = .returned (.slice none 0 0) ∧ w' = w := by
  obtain ⟨P, hP⟩ : ∃ P : Ending → World → Prop, P = fun e w' => e = .returned (.slice none 0 0) ∧ w' = w := ⟨_, rfl⟩
  rw [← hP]
  have HP := hid_intro hP
  clear hP
  go_enter Tryz.func35, Tryz.ntmps35
  go_wp2_with fail
  rw [HP.out]
  exact ⟨rfl, rfl⟩
/-- The blocks of a follower that begins at a world's end. -/
def evOf (s : Nat) : EV := ⟨s + 3, s + 6, s + 5, s + 4, s, s + 1, s + 7, s + 2, s + 8⟩
def xOf (s : Nat) (b : Nat) : Prop := b = s + 6 ∨ b = s + 5 ∨ b = s + 4 ∨ b = s + 2 ∨ s + 8 ≤ b
def clo2 (s : Nat) : Value := .func (.func 59) #[] #[.pointer (some ⟨s + 4, 0, none⟩), .pointer (some ⟨s + 6, 0, none⟩), .pointer (some ⟨s + 5, 0, none⟩), .pointer (some ⟨s + 7, 0, none⟩)]
def wOf7 (w : World) (lv tv : Value) : World := ((((((w.alloc (.cells #[lv] 24)).alloc (.cells #[tv] 66)).alloc (.map #[] 0)).alloc (.cells #[.map (some (w.heap.size + 2))] 100)).alloc (.cells #[.slice none 0 0] 32)).alloc (.cells #[.slice none 0 0] 32)).alloc (.cells #[.int .i64 0] 3)
def wOf (w : World) (lv tv : Value) : World := (wOf7 w lv tv).alloc (.cells #[clo (evOf w.heap.size)] 101)
theorem f0_start {w : World} {L : List ST} {t : List Int} {lv tv : Value} {X Y : Nat → Prop} (hS : SI w X L lv) (hT : II w Y t tv) : F0 (wOf w lv tv) (xOf w.heap.size) (evOf w.heap.size) L t 0 (.slice none 0 0) ∧ Below w.heap.size w (wOf w lv tv) ∧ (wOf w lv tv).heap.size = w.heap.size + 8 := by
  have h7 : Below w.heap.size w (wOf7 w lv tv) := vb_a (vb_a (vb_a (vb_a (vb_a (vb_a (vb_a (Below.refl _ _) _) _) _) _) _) _) _
  have s7 : (wOf7 w lv tv).heap.size = w.heap.size + 7 := by unfold wOf7; simp
  have hb : Below w.heap.size w (wOf w lv tv) := vb_a h7 _
  have hsz : (wOf w lv tv).heap.size = w.heap.size + 8 := by unfold wOf; simp [s7]
  have hx : ∀ b, b < w.heap.size → ¬ xOf w.heap.size b := fun b h => by unfold xOf; omega
  have up : ∀ b cs, Bk (wOf7 w lv tv) b cs → Bk (wOf w lv tv) b cs := fun b cs h => h.al _
  refine ⟨⟨⟨?_, ?_, ?_, ?_, ?_, ?_, ?_, ⟨lv, ?_, hS.carry fun b _ h => ⟨hb.block b h, hx b h⟩⟩, ⟨tv, ?_, hT.carry fun b _ h => ⟨hb.block b h, hx b h⟩⟩, ?_⟩, ⟨0, ?_⟩, ⟨.slice none 0 0, ?_⟩, ?_, ⟨[], OwnI.nil _ _⟩, (fun b h => by cases h), ⟨0, fun _ => 0, ?_, by simp, fun x _ => Int.le_refl _⟩⟩, hb, hsz⟩
  · unfold xOf evOf; dsimp only; omega
  · unfold xOf evOf; dsimp only; omega
  · unfold evOf; dsimp only; omega
  · unfold evOf; dsimp only; omega
  · rw [hsz]; exact Nat.le_refl _
  · intro b h; rw [hsz] at h; unfold xOf; omega
  · exact up _ _ ((((Bk.new' _ _ _ (w.heap.size + 3) (by simp)).al _).al _).al _)
  · exact up _ _ ((((((Bk.new w _ _).al _).al _).al _).al _).al _ |>.al _)
  · exact up _ _ (((((Bk.new' _ _ _ (w.heap.size + 1) (by simp)).al _).al _).al _).al _ |>.al _)
  · exact Bk.new' _ _ _ (w.heap.size + 7) s7
  · exact up _ _ (Bk.new' _ _ _ (w.heap.size + 6) (by simp))
  · exact up _ _ ((Bk.new' _ _ _ (w.heap.size + 5) (by simp)).al _)
  · exact up _ _ (((Bk.new' _ _ _ (w.heap.size + 4) (by simp)).al _).al _)
  · have h := CM.made ((w.alloc (.cells #[lv] 24)).alloc (.cells #[tv] 66))
    have e : ((w.alloc (.cells #[lv] 24)).alloc (.cells #[tv] 66)).heap.size = w.heap.size + 2 := by simp
    rw [e] at h
    refine h.blk ?_
    have q : Below (w.heap.size + 3) (((w.alloc (.cells #[lv] 24)).alloc (.cells #[tv] 66)).alloc (.map #[] 0)) (wOf w lv tv) := (((((Below.refl _ _).alloc (by simp) _).alloc (by simp) _).alloc (by simp) _).alloc (by simp) _).alloc (by show _ ≤ (wOf7 w lv tv).heap.size; omega) _
    exact q.block (w.heap.size + 2) (by omega)
set_option maxRecDepth 100000 in
set_option maxHeartbeats 1600000 in
theorem pfollower_any (a1 a2 : Option Addr) (n1 c1 n2 c2 : Nat) (w : World) : Calls Tryz.prog 32 #[.slice a1 n1 c1, .slice a2 n2 c2] w fun e w' => e = .returned (clo2 w.heap.size) ∧ w' = wOf w (.slice a1 n1 c1) (.slice a2 n2 c2) := by
  have hmm := @run_makeMap Tryz.prog
  have hsf : ∀ (fn : Fn) (x y : Array Value) (a : Addr) (m : Mode) (w : World), (store a (.func fn x y) m).run Tryz.prog w = stored Tryz.prog w a (.func fn x y) m := fun fn x y a m w => run_store Tryz.prog w a _ m rfl
  have hmf : ∀ (fn : Fn) (first cap : Array Value) (w : World), (Instr.makeFunc fn first cap).run Tryz.prog w = .ok (.func fn first cap) w := fun _ _ _ _ => rfl
  obtain ⟨P, hP⟩ : ∃ P : Ending → World → Prop, P = fun e w' => e = .returned (clo2 w.heap.size) ∧ w' = wOf w (.slice a1 n1 c1) (.slice a2 n2 c2) := ⟨_, rfl⟩
  rw [← hP]
  have HP := hid_intro hP
  have s7 : (wOf7 w (.slice a1 n1 c1) (.slice a2 n2 c2)).heap.size = w.heap.size + 7 := by unfold wOf7; simp
  have c0 := (Bk.new' (wOf7 w (.slice a1 n1 c1) (.slice a2 n2 c2)) #[.nilFunc] 101 (w.heap.size + 1 + 1 + 1 + 1 + 1 + 1 + 1) s7).q1
  have d0 := (Bk.new' (wOf7 w (.slice a1 n1 c1) (.slice a2 n2 c2)) #[.nilFunc] 101 (w.heap.size + 1 + 1 + 1 + 1 + 1 + 1 + 1) s7).frz 0
  unfold wOf7 at c0 d0
  rw [show w.heap.size + 2 = w.heap.size + 1 + 1 from rfl] at c0 d0
  clear hP s7
  go_enter Tryz.func32, Tryz.ntmps32
  go_wp2_with fail
  rw [HP.out]
  exact ⟨rfl, rfl⟩
/-- What is read. -/
def readE (L : List ST) (s : ByteArray) : Int := if nfaB L = true then (if goodS s = true then 0 else 10) else 101
set_option maxRecDepth 100000 in
set_option maxHeartbeats 1600000 in
theorem read_no (L : List ST) (hr : ∀ s ∈ L, s.r.length ≤ 1099511627776) (s : ByteArray) (hs : s.size ≤ 1099511627776) (lv : Value) (w : World) (hT : Tab w) (X : Nat → Prop) (hS : SI w X L lv) (h : readE L s ≠ 0) :
    Calls Tryz.prog 31 #[lv, .string s] w fun e w' => e = .returned (.tuple #[.slice none 0 0, .int .i64 (readE L s)]) ∧ Below w.heap.size w w' := by
  have hc := nfaCheck_any L lv w X hS hr
  obtain ⟨P, hP⟩ : ∃ P : Ending → World → Prop, P = fun e w' => e = .returned (.tuple #[.slice none 0 0, .int .i64 (readE L s)]) ∧ Below w.heap.size w w' := ⟨_, rfl⟩
  rw [← hP]
  have HP := hid_intro hP
  obtain ⟨a1, c1, rfl, _⟩ := id hS
  cases hn : nfaB L
  · have HE : Hid (readE L s = 101) := hid_intro (by unfold readE; rw [hn]; rfl)
    rw [hn, if_neg Bool.false_ne_true] at hc
    clear hP hS hT hr hs h hn
    go_enter Tryz.func31, Tryz.ntmps31
    go_wp2_with fail
    refine hc.mono ?_; rintro e w1 ⟨rfl, hb1⟩
    go_wp2_with fail
    rw [HP.out, HE.out]
    exact ⟨rfl, hb1⟩
  · cases hg : goodS s
    · have HE : Hid (readE L s = 10) := hid_intro (by unfold readE; rw [hn, hg]; rfl)
      rw [hn, if_pos rfl] at hc
      have hcv : ∀ w', (convert 9 35 (.string s)).run Tryz.prog w' = _ := fun w' => conv_str w' s
      have HN := hid_intro (fun w1 (hb1 : Below w.heap.size w w1) => points_none _ _ _ (Lib.bytesWorld w1 5 s) ((hT.below hb1).below (bl_bytes w1 s)) (byt_str w1 s (by unfold maxLen; omega)) hg)
      clear hP hS hT hr hs h hn hg
      go_enter Tryz.func31, Tryz.ntmps31
      go_wp2_with fail
      refine hc.mono ?_; rintro e w1 ⟨rfl, hb1⟩
      have hp := HN.out w1 hb1
      have HB := hid_intro (vb_t hb1 (bl_bytes w1 s))
      clear hc hb1
      go_wp2_with fail
      refine hp.mono ?_; rintro e w2 ⟨rfl, q, rfl⟩
      go_wp2_with fail
      rw [HP.out, HE.out]
      exact ⟨rfl, ⟨HB.out.os, HB.out.tape, HB.out.output, HB.out.size, HB.out.block⟩⟩
    · exact absurd (by unfold readE; rw [hn, hg]; rfl) h
set_option maxRecDepth 100000 in
set_option maxHeartbeats 1600000 in
theorem read_ok (L : List ST) (hr : ∀ s ∈ L, s.r.length ≤ 1099511627776) (s : ByteArray) (hs : s.size ≤ 1099511627776) (lv : Value) (w : World) (hT : Tab w) (X : Nat → Prop) (hS : SI w X L lv) (hn : nfaB L = true) (hg : goodS s = true) :
    Calls Tryz.prog 31 #[lv, .string s] w fun e w' => ∃ v, e = .returned (.tuple #[v, .int .i64 0]) ∧ OwnI w' w.heap.size v (ptsS s) ∧ Below w.heap.size w w' := by
  have hc := nfaCheck_any L lv w X hS hr
  rw [hn, if_pos rfl] at hc
  obtain ⟨P, hP⟩ : ∃ P : Ending → World → Prop, P = fun e w' => ∃ v, e = .returned (.tuple #[v, .int .i64 0]) ∧ OwnI w' w.heap.size v (ptsS s) ∧ Below w.heap.size w w' := ⟨_, rfl⟩
  rw [← hP]
  have HP := hid_intro hP
  obtain ⟨a1, c1, rfl, _⟩ := id hS
  have hcv : ∀ w', (convert 9 35 (.string s)).run Tryz.prog w' = _ := fun w' => conv_str w' s
  have hsl : s.data.toList.length ≤ 17592186044416 := by
    have e : s.data.toList.length = s.size := Array.length_toList
    omega
  have HN := hid_intro (fun w1 (hb1 : Below w.heap.size w w1) => points_some _ _ _ (Lib.bytesWorld w1 5 s) ((hT.below hb1).below (bl_bytes w1 s)) (byt_str w1 s (by unfold maxLen; omega)) (bx_lo _) (bx_hi _) hsl hg)
  have HBD := hid_intro (ptsS_bd s hg)
  clear hP hS hT hr hs hn hg hsl
  go_enter Tryz.func31, Tryz.ntmps31
  go_wp2_with fail
  refine hc.mono ?_; rintro e w1 ⟨rfl, hb1⟩
  have hp := HN.out w1 hb1
  have HB := hid_intro (vb_t hb1 (bl_bytes w1 s))
  clear hc hb1
  go_wp2_with fail
  refine hp.mono ?_; rintro e w2 ⟨v, rfl, ho, hb2⟩
  go_wp2_with fail
  rw [HP.out]
  exact ⟨v, rfl, ⟨own_mono ho HB.out.size, fun x hx => by have := HBD.out x hx; exact ⟨by omega, by omega⟩⟩, vb_t HB.out hb2⟩
end Go.Proofs.YtoinlmfodmgohaaGreatDoor

namespace Go.Proofs.YtoinlmfodmgohaaGreatDoor
open Go.RowKit Go.Maps

/-- The states at a place. -/
def Rs (L : List ST) (t : List Int) (each : Bool) : Nat → Int → Prop
  | 0 => Rch L (letsB t 0) (fun y => y = 0)
  | P + 1 => Rch L (letsB t (P + 1)) (fun y => (each = true ∧ y = 0) ∨ ∃ z, Rs L t each P z ∧ goB L (ia t P) z = true ∧ y = (sx L z).a)
def FrN (L : List ST) (t : List Int) (each : Bool) : Nat → Int → Prop
  | 0, _ => False
  | P + 1, y => ∃ z, Rs L t each P z ∧ goB L (ia t P) z = true ∧ y = (sx L z).a
theorem Rch.sub {L : List ST} {g : Int → Bool} {F G : Int → Prop} (h : ∀ y, F y → G y) {x : Int} (hx : Rch L g F x) : Rch L g G x := by
  induction hx with
  | base hx => exact .base (h _ hx)
  | a _ hg ih => exact .a ih hg
  | b _ hk ih => exact .b ih hk
theorem Rch.congr {L : List ST} {g : Int → Bool} {F G : Int → Prop} (h : ∀ y, F y ↔ G y) (x : Int) : Rch L g F x ↔ Rch L g G x := ⟨Rch.sub fun y => (h y).1, Rch.sub fun y => (h y).2⟩
theorem Rs_eq (L : List ST) (t : List Int) (each : Bool) (P : Nat) (x : Int) : Rs L t each P x ↔ Rch L (letsB t P) (fun y => (y = 0 ∧ (P = 0 ∨ each = true)) ∨ FrN L t each P y) x := by
  cases P with
  | zero => exact Rch.congr (fun y => by simp [FrN]) x
  | succ P => exact Rch.congr (fun y => by simp only [FrN]; constructor; · rintro (⟨h1, h2⟩ | h); exact Or.inl ⟨h2, Or.inr h1⟩; exact Or.inr h
                                           · rintro (⟨h1, h2⟩ | h); exact Or.inl ⟨h2.resolve_left (by omega), h1⟩; exact Or.inr h) x
theorem Rch.inl {L : List ST} (hL : VS L) {g : Int → Bool} (hg : GG g) {F : Int → Prop} (hF : ∀ y, F y → InL L y) {x : Int} (hx : Rch L g F x) : InL L x := by
  induction hx with
  | base hx => exact hF _ hx
  | a _ h ih => exact (hL.at ih).1 (by have := hg.2 _ h; omega)
  | b _ h ih => exact (hL.at ih).2 h
theorem goB_inl {L : List ST} (hL : VS L) {p z : Int} (hz : InL L z) (h : goB L p z = true) : InL L (sx L z).a := by
  unfold goB at h
  rw [Bool.and_eq_true, decide_eq_true_iff] at h
  exact (hL.at hz).1 (Or.inl h.1)
theorem Rs_inl {L : List ST} (hL : VS L) (t : List Int) (each : Bool) : ∀ P x, Rs L t each P x → InL L x
  | 0, x, h => Rch.inl hL (letsB_gg t 0) (fun y hy => by subst hy; exact ⟨by omega, by have := hL.1; omega⟩) h
  | P + 1, x, h => Rch.inl hL (letsB_gg t (P + 1)) (fun y hy => by
    rcases hy with ⟨_, rfl⟩ | ⟨z, hz, hgo, rfl⟩
    · exact ⟨by omega, by have := hL.1; omega⟩
    · exact goB_inl hL (Rs_inl hL t each P z hz) hgo) h
theorem FrN_inl {L : List ST} (hL : VS L) (t : List Int) (each : Bool) (P : Nat) (y : Int) (h : FrN L t each P y) : InL L y := by
  cases P with
  | zero => exact h.elim
  | succ P =>
    obtain ⟨z, hz, hgo, rfl⟩ := h
    exact goB_inl hL (Rs_inl hL t each P z hz) hgo
/-- How many states there were ahead of a place. -/
def Stp (L : List ST) (t : List Int) (each : Bool) : Nat → Nat → Prop
  | 0, s => s = 0
  | P + 1, s => ∃ a c, Stp L t each P a ∧ Cnt (Rs L t each P) c ∧ s = a + c
def Dn (L : List ST) (t : List Int) (each : Bool) (P : Nat) : Prop := ∃ x, Rs L t each P x ∧ isD L x = true
/-- What a search answers. -/
def SrR (L : List ST) (t : List Int) (b : Bool) (n : Nat) : Prop := ∃ Q, Q ≤ t.length ∧ Stp L t true (Q + 1) n ∧ ((b = true ∧ Dn L t true Q ∧ ∀ P, P < Q → ¬ Dn L t true P) ∨ (b = false ∧ Q = t.length ∧ ∀ P, P ≤ Q → ¬ Dn L t true P))
theorem Stp.uniq {L : List ST} {t : List Int} {each : Bool} : ∀ {P a b : Nat}, Stp L t each P a → Stp L t each P b → a = b
  | 0, a, b, h, h' => by rw [h, h']
  | P + 1, _, _, ⟨a, c, h1, h2, e⟩, ⟨a', c', h1', h2', e'⟩ => by rw [e, e', Stp.uniq h1 h1', h2.uniq h2']
theorem SrR.uniq {L : List ST} {t : List Int} {b b' : Bool} {n n' : Nat} (h : SrR L t b n) (h' : SrR L t b' n') : b = b' ∧ n = n' := by
  obtain ⟨Q, hQ, hs, hc⟩ := h
  obtain ⟨Q', hQ', hs', hc'⟩ := h'
  have e : Q = Q' ∧ b = b' := by
    rcases hc with ⟨e1, d1, m1⟩ | ⟨e1, d1, m1⟩ <;> rcases hc' with ⟨e2, d2, m2⟩ | ⟨e2, d2, m2⟩
    · refine ⟨?_, by rw [e1, e2]⟩
      rcases Nat.lt_trichotomy Q Q' with h | h | h
      · exact absurd d1 (m2 Q h)
      · exact h
      · exact absurd d2 (m1 Q' h)
    · exact absurd d1 (m2 Q (by omega))
    · exact absurd d2 (m1 Q' (by omega))
    · exact ⟨by omega, by rw [e1, e2]⟩
  obtain ⟨rfl, rfl⟩ := e
  exact ⟨rfl, hs.uniq hs'⟩
theorem Cnt.le {L : List ST} (hL : VS L) {t : List Int} {each : Bool} {P c : Nat} (h : Cnt (Rs L t each P) c) : c ≤ L.length := by
  obtain ⟨H, h1, h2, rfl⟩ := h
  exact pig _ _ h1 (fun x hx => Rs_inl hL t each P x ((h2 x).1 hx))
theorem Stp.le {L : List ST} (hL : VS L) {t : List Int} {each : Bool} : ∀ {P s : Nat}, Stp L t each P s → s ≤ P * L.length
  | 0, s, h => by rw [h]; omega
  | P + 1, _, ⟨a, c, h1, h2, rfl⟩ => by
    have := Stp.le hL h1
    have := Cnt.le hL h2
    rw [Nat.succ_mul]
    omega
theorem Stp.pos {L : List ST} {t : List Int} {each : Bool} : ∀ {P s : Nat}, Stp L t each (P + 1) s → 1 ≤ s
  | 0, _, ⟨a, c, h1, ⟨H, _, h3, h4⟩, rfl⟩ => by
    have : (0 : Int) ∈ H := (h3 0).2 (.base rfl)
    have := List.length_pos_of_mem this
    omega
  | P + 1, _, ⟨a, c, h1, h2, rfl⟩ => by have := Stp.pos h1; omega
/-- States that may be. -/
theorem vs_of {L : List ST} (h : nfaB L = true) : VS L := by
  unfold nfaB at h
  rw [Bool.and_eq_true, decide_eq_true_iff, List.all_eq_true] at h
  refine ⟨by omega, fun s hs => ?_⟩
  have hb := h.2 s hs
  unfold stB at hb
  unfold InL
  by_cases k1 : s.k = 1
  · rw [if_pos k1] at hb
    simp only [inB, Bool.and_eq_true, decide_eq_true_eq] at hb
    exact ⟨fun _ => by omega, fun e => by omega⟩
  rw [if_neg k1] at hb
  by_cases k2 : s.k = 2
  · rw [if_pos k2] at hb
    simp only [inB, Bool.and_eq_true, decide_eq_true_eq] at hb
    exact ⟨fun _ => by omega, fun e => by omega⟩
  rw [if_neg k2] at hb
  by_cases k3 : s.k = 3 ∨ s.k = 4 ∨ s.k = 5 ∨ s.k = 6
  · rw [if_pos k3] at hb
    simp only [inB, Bool.and_eq_true, decide_eq_true_eq] at hb
    exact ⟨fun _ => by omega, fun e => by omega⟩
  · exact ⟨fun e => by omega, fun e => by omega⟩
theorem rs_of {L : List ST} (h : nfaB L = true) (hok : ∀ s ∈ L, s.ok) (hr : ∀ s ∈ L, s.r.length ≤ 1048576) : RS L := by
  unfold nfaB at h
  rw [Bool.and_eq_true, decide_eq_true_iff, List.all_eq_true] at h
  intro s hs
  refine ⟨hok s hs, hr s hs, fun i hi => ?_⟩
  have hb := h.2 s hs
  unfold stB at hb
  by_cases k1 : s.k = 1
  · rw [if_pos k1] at hb
    simp only [rgB, Bool.and_eq_true, decide_eq_true_eq] at hb
    exact hb.2 i hi
  rw [if_neg k1] at hb
  exfalso
  by_cases k2 : s.k = 2
  · rw [if_pos k2] at hb
    simp only [Bool.and_eq_true, decide_eq_true_eq] at hb
    omega
  rw [if_neg k2] at hb
  by_cases k3 : s.k = 3 ∨ s.k = 4 ∨ s.k = 5 ∨ s.k = 6
  · rw [if_pos k3] at hb
    simp only [Bool.and_eq_true, decide_eq_true_eq] at hb
    omega
  rw [if_neg k3] at hb
  by_cases k7 : s.k = 7
  · rw [if_pos k7] at hb
    simp only [Bool.and_eq_true, decide_eq_true_eq] at hb
    omega
  · rw [if_neg k7] at hb; cases hb
theorem F0.keep {w w' : World} {X : Nat → Prop} {e : EV} {L : List ST} {t : List Int} {p : Nat} {vh : Value} (h : F0 w X e L t p vh) (hb : But X w w') (hk : ∀ b, (b < e.B ∨ vh.ownBlock = some b) → b < w.heap.size → w'.heap[b]? = w.heap[b]?) : F0 w' X e L t p vh := by
  obtain ⟨fx, ⟨y, kp⟩, ⟨vw, kw⟩, kh, ⟨l, oh⟩, xh, ⟨cnt, c, hcm, hcn, hcx⟩⟩ := h
  have key : ∀ b cs, Bk w b cs → b < e.B → Bk w' b cs := fun b cs ⟨T, hT⟩ hlt => ⟨T, (hk b (Or.inl hlt) (Bk.lt ⟨T, hT⟩)).trans hT⟩
  exact ⟨fx.but hb, ⟨y, key _ _ kp fx.lo.1⟩, ⟨vw, key _ _ kw fx.lo.2.1⟩, key _ _ kh fx.lo.2.2.1, ⟨l, oh.blk fun g hg => hk g (Or.inr hg) (oh.lt hg).2⟩, xh, ⟨cnt, c, hcm.blk (hk _ (Or.inl fx.lo.2.2.2) hcm.lt), hcn, hcx⟩⟩
theorem II.drop {w : World} {X : Nat → Prop} {t : List Int} {g cap : Nat} {off : Nat} (h : II w X t (.slice (some ⟨g, off, none⟩) t.length cap)) {P : Nat} (hP : P < t.length) : II w X (t.drop P) (.slice (some ⟨g, off + P, none⟩) (t.length - P) (cap - P)) := by
  obtain ⟨ao, cap', e, h1, h2, h3, h4⟩ := h
  injection e with e1 _ e3
  subst e1 e3
  have hl : (t.drop P).length = t.length - P := List.length_drop
  refine ⟨some ⟨g, off + P, none⟩, cap - P, by rw [hl], by rw [hl]; omega, by omega, fun x hx => h3 x (List.mem_of_mem_drop hx), ?_⟩
  rcases h4 with rfl | ⟨b, off', e, hx, hc⟩
  · simp at hP
  · injection e with e
    injection e with e1 e2 _
    subst e1 e2
    refine Or.inr ⟨g, off + P, rfl, hx, fun i hi => ?_⟩
    have := hc (P + i) (by omega)
    rw [← Nat.add_assoc] at this
    rw [this]
    unfold ia
    rw [List.getD_eq_getElem?_getD, List.getD_eq_getElem?_getD, List.getElem?_drop]
theorem OwnI.mono {w : World} {B B' : Nat} {v : Value} {l : List Int} (h : OwnI w B v l) (hb : B' ≤ B) : OwnI w B' v l := ⟨own_mono h.1 hb, h.2⟩
end Go.Proofs.YtoinlmfodmgohaaGreatDoor
