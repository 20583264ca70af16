/-
  What utf.Compare, value.members, value.byKeys, its function and value.rising answer. Conditions: at most 2^40 members.
  What value.Get answers of an object: a copy of the member of a key, or that there is none. Conditions: lists and texts of at most 2^30, as many keys as values.
  What value.anyAlike and value.firstUnlike answer. Conditions: at most 2^40 elements.
-/
import Derived.Test.YtjdboekanmfgpaaGreatDoorJoined17
import Derived.Test.YtjdboekanmfgpaaGreatDoorJoined15
import Derived.Shelf.SlSortCmp.QuietGrown
namespace Go.Proofs.YtjdboekanmfgpaaGreatDoor
open Go.RowKit Go.Lib Go.Sort
attribute [local go_sem] setCell_drewN alloc_drewN

theorem ucmp_any (a b : ByteArray) (w : World) : Calls Tryz.prog 40 #[.string a, .string b] w fun r w' => r = .returned (.int .i64 (kc a b)) ∧ w' = w := by
 have hc := vcmp_str a b w
 generalize kc a b = c at *
 go_enter Tryz.func40, Tryz.ntmps40
 go_wp2_with (first | (go_at_call 72; refine hc.mono ?_; rintro r w1 ⟨rfl, rfl⟩))
 go_ret
 exact ⟨rfl, rfl⟩
theorem members_any (k : Int) (n : Bool) (g : ByteArray) (e : Int) (t : ByteArray) (ao ko : Option Addr) (ll lc kl kc' : Nat) (w : World) :
  Calls Tryz.prog 49 #[.agg #[.int .i64 k, .bool n, .string g, .int .i64 e, .string t, .slice ao ll lc, .slice ko kl kc']] w fun r w' => r = .returned (.int .i64 ((min kl ll : Nat) : Int)) ∧ Below w.heap.size w w' := by
 have hb0 : Below w.heap.size w (vbox w k n g e t (.slice ao ll lc) (.slice ko kl kc')) := vb_a (Below.refl _ _) _
 unfold vbox at hb0
 have hm : min (kl : Int) (ll : Int) = ((min kl ll : Nat) : Int) := by omega
 go_enter Tryz.func49, Tryz.ntmps49
 go_wp2_with fail
 go_ret
 exact ⟨by rw [← hm]; go_num, hb0⟩
theorem byKeys_any (k : Int) (n : Bool) (g : ByteArray) (e : Int) (t : ByteArray) (lv kv : Value) (w : World) :
  Calls Tryz.prog 82 #[.agg #[.int .i64 k, .bool n, .string g, .int .i64 e, .string t, lv, kv]] w fun r w' => r = .returned (.func (.func 108) #[] #[.pointer (some ⟨w.heap.size, 0, none⟩)]) ∧ w' = vbox w k n g e t lv kv := by
 have hmf : ∀ (fn : Fn) (first cap : Array Value) (w : World), (Instr.makeFunc fn first cap).run Tryz.prog w = .ok (.func fn first cap) w := fun _ _ _ _ => rfl
 unfold vbox
 go_enter Tryz.func82, Tryz.ntmps82
 go_wp2_with fail
 go_ret
 exact ⟨rfl, rfl⟩

set_option maxRecDepth 100000 in
set_option maxHeartbeats 3200000 in
/-- Two members by their keys. -/
theorem byKey_any (w : World) (B : Nat) (ks : List ByteArray) (kv : Value) (hB : w.cell? ⟨B, 6, none⟩ = some kv) (hks : SI w (fun _ => False) ks kv) (i j : Nat) (hi : i < ks.length) (hj : j < ks.length) :
  Calls Tryz.prog 108 #[.int .i64 (i : Int), .int .i64 (j : Int), .pointer (some ⟨B, 0, none⟩)] w fun r w' => r = .returned (.int .i64 (byK ks i j)) ∧ Below w.heap.size w w' := by
 obtain ⟨ao, cap, rfl, h1, h2, h3, h4⟩ := hks
 obtain ⟨b, off, rfl, _, h5⟩ := h4.resolve_left (fun e => by rw [e] at hi; exact absurd hi (by simp))
 have hiI : (i : Int) < (ks.length : Int) := by omega
 have hjI : (j : Int) < (ks.length : Int) := by omega
 have hm : (ks.length : Int) ≤ 9223372036854775807 := by unfold maxLen at h2; omega
 have c6 : ∀ q, (w.drewN q).cell? ⟨B, 6, none⟩ = some (.slice (some ⟨b, off, none⟩) ks.length cap) := fun q => hB
 have ci : ∀ q, (w.drewN q).cell? ⟨b, off + i, none⟩ = some (.string ks[i]) := fun q => h5 i hi
 have cj : ∀ q, (w.drewN q).cell? ⟨b, off + j, none⟩ = some (.string ks[j]) := fun q => h5 j hj
 have hby : byK ks i j = kc ks[i] ks[j] := by unfold byK; simp [hi, hj]
 have hc := fun q => ucmp_any ks[i] ks[j] (w.drewN q)
 rw [hby]
 clear h5 h4 h3 hB hby
 generalize kc ks[i] ks[j] = c at *
 go_enter Tryz.func108, Tryz.ntmps108
 go_wp2_with fail
 go_quiet ((go_at_call 40; exact Calls.quiet_of_same (hc _)))
 go_wp2_with fail
 go_ret
 exact ⟨rfl, vb_n (Below.refl _ _) _⟩
theorem enters_byKey : ∀ args w, (callFunc 108 args).run Tryz.prog w = .ok (.enter 108 args) w := enters_of Tryz.func108 (by kernel_rfl) rfl
/-- The order by keys, in whatever world that has what was there. -/
theorem keys_cmp (w : World) (B : Nat) (ks : List ByteArray) (kv : Value) (hB : w.cell? ⟨B, 6, none⟩ = some kv) (hks : SI w (fun _ => False) ks kv) (n : Nat) (hn : n ≤ ks.length) : CmpAt w 108 #[.pointer (some ⟨B, 0, none⟩)] n (byK ks) :=
 ⟨enters_byKey, fun w' hb i j hi hj => byKey_any w' B ks kv ((hb.cell (World.block_lt_of_cell? w _ hB)).trans hB) (hks.carry fun b _ hlt => ⟨hb.block b hlt, fun h => h⟩) i j (by omega) (by omega)⟩
theorem keys_ord (ks : List ByteArray) (n : Nat) : OrdAt n (byK ks) where
 irr i _ := by unfold byK; rw [kc_refl]; omega
 tr i j k _ _ _ h1 h2 := by unfold byK at *; exact kc_trans h1 h2
 nt i j k _ _ _ h1 h2 := by
  unfold byK at *
  intro h3
  generalize ks.getD i ByteArray.empty = x at *
  generalize ks.getD j ByteArray.empty = y at *
  generalize ks.getD k ByteArray.empty = z at *
  have e1 := kc_anti x y
  have e2 := kc_anti y z
  have e3 := kc_anti x z
  have hzy : kc z y < 0 ∨ kc z y = 0 := by omega
  have hyx : kc y x < 0 ∨ kc y x = 0 := by omega
  rcases hyx with hyx | hyx
  ·rcases hzy with hzy | hzy
   ·have := kc_trans hzy hyx; omega
   ·have := kc_zero hzy; subst this; omega
  ·have := kc_zero hyx; subst this; omega

set_option maxRecDepth 100000 in
set_option maxHeartbeats 3200000 in
/-- An object's places by rising keys. -/
theorem rising_typ (k : Int) (n : Bool) (g : ByteArray) (e : Int) (t : ByteArray) (ao ko : Option Addr) (ll lc kc' : Nat) (ks : List ByteArray) (hl : ll ≤ 1099511627776) (w : World) (hks : SI w (fun _ => False) ks (.slice ko ks.length kc')) :
  Calls Tryz.prog 44 #[.agg #[.int .i64 k, .bool n, .string g, .int .i64 e, .string t, .slice ao ll lc, .slice ko ks.length kc']] w (SpT w (min ks.length ll) (byK ks)) := by
 obtain ⟨P, hP⟩ : ∃ P : Ending → World → Prop, P = SpT w (min ks.length ll) (byK ks) := ⟨_, rfl⟩
 rw [← hP]
 have HP := hid_intro hP
 clear hP
 have hb0 : Below w.heap.size w (vbox w k n g e t (.slice ao ll lc) (.slice ko ks.length kc')) := vb_a (Below.refl _ _) _
 obtain ⟨W, hW⟩ : ∃ W, vbox w k n g e t (.slice ao ll lc) (.slice ko ks.length kc') = W := ⟨_, rfl⟩
 rw [hW] at hb0
 have hbW : Below w.heap.size w W := hb0
 have hlt : w.heap.size < W.heap.size := by rw [← hW]; simp [vbox]
 have hcell : ∀ o, W.cell? ⟨w.heap.size, o, none⟩ = (#[.int .i64 k, .bool n, .string g, .int .i64 e, .string t, .slice ao ll lc, .slice ko ks.length kc'] : Array Value)[o]? := fun o => by rw [← hW]; simp [vbox]
 have HS : Hid (∀ w', Below W.heap.size W w' → ∀ o, w'.cell? ⟨w.heap.size, o, none⟩ = (#[.int .i64 k, .bool n, .string g, .int .i64 e, .string t, .slice ao ll lc, .slice ko ks.length kc'] : Array Value)[o]?) := hid_intro (fun w' hb o => (hb.cell (p := ⟨w.heap.size, o, none⟩) hlt).trans (hcell o))
 have HM : Hid (∀ w', Below W.heap.size W w' → Calls Tryz.prog 49 #[.agg #[.int .i64 k, .bool n, .string g, .int .i64 e, .string t, .slice ao ll lc, .slice ko ks.length kc']] w' fun r w'' => r = .returned (.int .i64 ((min ks.length ll : Nat) : Int)) ∧ Below W.heap.size W w'') := hid_intro (fun w' hb => (members_any k n g e t ao ko ll lc ks.length kc' w').mono fun r w'' ⟨h1, h2⟩ => ⟨h1, vb_t hb h2⟩)
 have HK : Hid (∀ w', Below W.heap.size W w' → Calls Tryz.prog 82 #[.agg #[.int .i64 k, .bool n, .string g, .int .i64 e, .string t, .slice ao ll lc, .slice ko ks.length kc']] w' fun r w'' => ∃ B, r = .returned (.func (.func 108) #[] #[.pointer (some ⟨B, 0, none⟩)]) ∧ w''.cell? ⟨B, 6, none⟩ = some (.slice ko ks.length kc') ∧ Below W.heap.size W w'') := hid_intro (fun w' hb => (byKeys_any k n g e t _ _ w').mono fun r w'' ⟨h1, h2⟩ => ⟨_, h1, by rw [h2]; simp [vbox], by rw [h2]; exact vb_a hb _⟩)
 have HN : Hid (∀ w' B, Below W.heap.size W w' → w'.cell? ⟨B, 6, none⟩ = some (.slice ko ks.length kc') → Calls Tryz.prog 81 #[.int .i64 ((min ks.length ll : Nat) : Int), .func (.func 108) #[] #[.pointer (some ⟨B, 0, none⟩)]] w' fun r w'' => ∃ ps v, r = .returned v ∧ Hid (SortedBy (byK ks) (min ks.length ll) ps ∧ II w'' (· < w.heap.size) (pI ps) v ∧ TyV w'' v) ∧ Below W.heap.size W w'') := hid_intro (fun w' B hb hB => by
  have hbb : Below w.heap.size w w' := vb_t hbW hb
  refine (places_typ (min ks.length ll) (by omega) 108 #[.pointer (some ⟨B, 0, none⟩)] (byK ks) (keys_ord ks _) w' (keys_cmp w' B ks _ hB (hks.carry fun b _ hlt => ⟨hbb.block b hlt, fun h => h⟩) _ (by omega))).mono ?_
  rintro r w'' ⟨ps, v, h1, h2, h3, h4, h5⟩
  exact ⟨ps, v, h1, ⟨h2, h3.carry fun b hx hlt => ⟨rfl, by have := hbb.size; omega⟩, h5⟩, vb_t hb h4⟩)
 have HBW := hid_intro hbW
 unfold vbox at hW
 clear hks hb0 hbW hcell hl
 go_enter Tryz.func44, Tryz.ntmps44
 go_wp2_with fail
 go_region_held3 (fun w' => ∀ o, w'.cell? ⟨w.heap.size, o, none⟩ = (#[.int .i64 k, .bool n, .string g, .int .i64 e, .string t, .slice ao ll lc, .slice ko ks.length kc'] : Array Value)[o]?) (first | (refine HS.out _ ?_; with_reducible repeat (first | exact Below.refl _ _ | exact hc | refine vb_d ?_)) | fail) (first | (go_at_call 49; refine (HM.out _ ?_).mono ?_; (with_reducible repeat (first | exact Below.refl _ _ | exact hc | refine vb_d ?_)); rintro r w3 ⟨rfl, hc⟩) | (go_at_call 82; refine (HK.out _ ?_).mono ?_; (with_reducible repeat (first | exact Below.refl _ _ | exact hc | refine vb_d ?_)); rintro r w4 ⟨B, rfl, hB6, hc⟩) | (go_at_call 81; refine (HN.out _ B ?_ ?_).mono ?_; (with_reducible repeat (first | exact hc | refine vb_d ?_)); (first | exact hB6 | skip); rintro r w5 ⟨ps, v, rfl, h2, hc⟩) | fail)
 all_goals
  go_wp2_with fail
  rw [HP.out]
  exact ⟨ps, v, rfl, h2.out.1, h2.out.2.1, vb_t HBW.out hc, fun a n' c' e => h2.out.2.2 a n' c' e⟩
theorem rising_any (k : Int) (n : Bool) (g : ByteArray) (e : Int) (t : ByteArray) (ao ko : Option Addr) (ll lc kc' : Nat) (ks : List ByteArray) (hl : ll ≤ 1099511627776) (w : World) (hks : SI w (fun _ => False) ks (.slice ko ks.length kc')) :
  Calls Tryz.prog 44 #[.agg #[.int .i64 k, .bool n, .string g, .int .i64 e, .string t, .slice ao ll lc, .slice ko ks.length kc']] w (SpP w (min ks.length ll) (byK ks)) :=
 (rising_typ k n g e t ao ko ll lc kc' ks hl w hks).mono fun _ _ h => h.weak
end Go.Proofs.YtjdboekanmfgpaaGreatDoor

namespace Go.Proofs.YtjdboekanmfgpaaGreatDoor
open Go.RowKit
attribute [local go_sem] setCell_drewN alloc_drewN

def kix (key : ByteArray) : List ByteArray → Nat → Option Nat
 | [], _ => none
 | y :: t, i => if key = y then some i else kix key t (i + 1)
theorem kix_drop (key : ByteArray) : ∀ (ys : List ByteArray) (o i : Nat), i < ys.length → kix key (ys.drop i) (o + i) = (if key = ys.getD i ⟨#[]⟩ then some (o + i) else kix key (ys.drop (i + 1)) (o + (i + 1)))
 | ys, o, i, h => by
  rw [List.drop_eq_getElem_cons h, kix, List.getD_eq_getElem?_getD, List.getElem?_eq_getElem h]
  rfl

def zvF : Nat → Value
 | 0 => .int .i64 0 | 1 => .bool false | 2 => .string ⟨#[]⟩ | 3 => .int .i64 0 | 4 => .string ⟨#[]⟩ | 5 => .slice none 0 0 | _ => .slice none 0 0
/-- What value.Get answers. -/
def GetP (w : World) (l : List JV) (ks : List ByteArray) (key : ByteArray) (r : Ending) (w' : World) : Prop :=
 ∃ (f' : Nat → Value) (b : Bool), r = .returned (.tuple #[va f', .bool b]) ∧ Below w.heap.size w w' ∧ (b = true → ∃ i, ∃ h : i < l.length, kix key ks 0 = some i ∧ VI w' (fun _ => False) l[i] f') ∧ (b = false → kix key ks 0 = none ∧ f' = zvF)

set_option maxRecDepth 100000 in
set_option maxHeartbeats 3200000 in
theorem vget_any (n : Bool) (g : ByteArray) (e : Int) (t : ByteArray) (l : List JV) (ks : List ByteArray) (ao ko : Option Addr) (cap kc : Nat) (G : Nat → Nat → Value) (key : ByteArray) (w : World) (hs : ∀ v ∈ l, Sm v) (hll : l.length ≤ 1073741824) (hlen : ks.length = l.length)
  (hr : ∀ i (h : i < l.length), VI w (fun _ => False) l[i] (G i))
  (hl : l = [] ∨ ∃ b off, ao = some ⟨b, off, none⟩ ∧ b < w.heap.size ∧ ∀ i, i < l.length → ∀ j, j < 7 → w.cell? ⟨b, off + i * 7 + j, none⟩ = some (G i j))
  (hk : ks = [] ∨ ∃ b off, ko = some ⟨b, off, none⟩ ∧ b < w.heap.size ∧ ∀ i (h : i < ks.length), w.cell? ⟨b, off + i, none⟩ = some (.string ks[i])) :
  Calls Tryz.prog 21 #[.agg #[.int .i64 6, .bool n, .string g, .int .i64 e, .string t, .slice ao l.length cap, .slice ko ks.length kc], .string key] w (GetP w l ks key) := by
 obtain ⟨P, hP⟩ : ∃ P : Ending → World → Prop, P = GetP w l ks key := ⟨_, rfl⟩
 rw [← hP]
 have HP := hid_intro hP
 have hA := C7.new w (.int .i64 6) (.bool n) (.string g) (.int .i64 e) (.string t) (.slice ao l.length cap) (.slice ko ks.length kc) 28
 obtain ⟨W, hW⟩ : ∃ W, w.alloc (.cells #[.int .i64 6, .bool n, .string g, .int .i64 e, .string t, .slice ao l.length cap, .slice ko ks.length kc] 28) = W := ⟨_, rfl⟩
 rw [hW] at hA
 have hbW : Below w.heap.size w W := hW ▸ bl_a (Below.refl _ _) _
 have hB := C7.new W (.int .i64 0) (.bool false) (.string ⟨#[]⟩) (.int .i64 0) (.string ⟨#[]⟩) (.slice none 0 0) (.slice none 0 0) 28
 obtain ⟨V, hV⟩ : ∃ V, W.alloc (.cells #[.int .i64 0, .bool false, .string ⟨#[]⟩, .int .i64 0, .string ⟨#[]⟩, .slice none 0 0, .slice none 0 0] 28) = V := ⟨_, rfl⟩
 rw [hV] at hB
 have hbV : Below W.heap.size W V := hV ▸ bl_a (Below.refl _ _) _
 have hA2 := hA.below hbV hA.lt
 have hbb : Below w.heap.size w V := bl_t hbW hbV
 have HBV : Hid (Below w.heap.size w V) := hid_intro hbb
 have HA : Hid (∀ w', Below V.heap.size V w' → C7 w' w.heap.size (.int .i64 6) (.bool n) (.string g) (.int .i64 e) (.string t) (.slice ao l.length cap) (.slice ko ks.length kc)) := hid_intro (fun w' hb => hA2.below hb hA2.lt)
 have HZ : Hid (∀ w', Below V.heap.size V w' → C7 w' W.heap.size (.int .i64 0) (.bool false) (.string ⟨#[]⟩) (.int .i64 0) (.string ⟨#[]⟩) (.slice none 0 0) (.slice none 0 0)) := hid_intro (fun w' hb => hB.below hb hB.lt)
 have HM : Hid (Calls Tryz.prog 49 #[.agg #[.int .i64 6, .bool n, .string g, .int .i64 e, .string t, .slice ao l.length cap, .slice ko ks.length kc]] V fun r w'' => r = .returned (.int .i64 (ks.length : Int)) ∧ Below V.heap.size V w'') := hid_intro ((members_any 6 n g e t ao ko l.length cap ks.length kc V).mono fun r w'' ⟨h1, h2⟩ => ⟨by rw [h1]; congr 3; omega, h2⟩)
 have HL : Hid (∀ i (h : i < l.length) w', Below V.heap.size V w' → ∃ b off, ao = some ⟨b, off, none⟩ ∧ (∀ j, j < 7 → w'.cell? ⟨b, off + i * 7 + j, none⟩ = some (G i j)) ∧ Calls Tryz.prog 50 #[.agg #[G i 0, G i 1, G i 2, G i 3, G i 4, G i 5, G i 6]] w' fun r w2 => ∃ f', r = .returned (.agg #[f' 0, f' 1, f' 2, f' 3, f' 4, f' 5, f' 6]) ∧ VI w2 (fun b => b = W.heap.size) l[i] f' ∧ Below V.heap.size V w2) := hid_intro (fun i hi w' hb => by
  rcases hl with h | ⟨b, off, h1, h2, h3⟩
  ·rw [h] at hi; exact absurd hi (by simp)
  ·have hbw : Below w.heap.size w w' := bl_t hbb hb
   refine ⟨b, off, h1, fun j hj => by rw [hbw.cell (p := ⟨b, off + i * 7 + j, none⟩) h2]; exact h3 i hi j hj, ?_⟩
   refine (copied_any l[i] (hs _ (List.getElem_mem hi)) (G i) w' (fun b => b = W.heap.size) (fun b e => by rw [e]; exact Nat.lt_of_lt_of_le hB.lt hb.size) ((hr i hi).carry fun b _ hlt => ⟨hbw.block b hlt, fun e => by have := hbW.size; omega⟩)).mono ?_
   rintro r w2 ⟨f', q1, q2, q3⟩
   exact ⟨f', q1, q2, bl_t hb q3⟩)
 have HK : Hid (∀ i, i < ks.length → ∀ w', Below V.heap.size V w' → ∃ b off, ko = some ⟨b, off, none⟩ ∧ w'.cell? ⟨b, off + i, none⟩ = some (.string (ks.getD i ⟨#[]⟩))) := hid_intro (fun i hi w' hb => by
  rcases hk with h | ⟨b, off, h1, h2, h3⟩
  ·rw [h] at hi; exact absurd hi (by simp)
  ·exact ⟨b, off, h1, by rw [(bl_t hbb hb).cell (p := ⟨b, off + i, none⟩) h2, h3 i hi, List.getD_eq_getElem?_getD, List.getElem?_eq_getElem hi]; rfl⟩)
 have HLE := hid_intro hlen
 have hkI : (ks.length : Int) ≤ 1073741824 := by omega
 have HWS : Hid (w.heap.size ≤ W.heap.size) := hid_intro hbW.size
 clear hP hl hk hr hlen hll hbW hbV hA hbb hs
 obtain ⟨a0, a1, a2, a3, a4, a5, a6, _, _, _, _, _, _, _⟩ := hA2
 clear hB
 go_enter Tryz.func21, Tryz.ntmps21
 go_wp2_with (first | (go_at_call 49; refine HM.out.mono ?_; rintro r w1 ⟨rfl, hb1⟩))
 clear a0 a1 a2 a3 a4 a5 a6
 have HB1 := hid_intro hb1
 clear hb1
 go_loopg [13] ks.length (fun m s6 wr => ∃ i : Nat, m = ks.length - i ∧ s6 = .int .i64 (i : Int) ∧ Hid (Below V.heap.size V wr) ∧ Hid (i ≤ ks.length) ∧ Hid (kix key ks 0 = kix key (ks.drop i) (0 + i)))
 case atStart => exact ⟨0, rfl, rfl, HB1, hid_intro (Nat.zero_le _), hid_intro (by show kix key ks 0 = kix key (ks.drop 0) (0 + 0); rw [List.drop_zero])⟩
 case round =>
  clear HB1
  obtain ⟨i, rfl, rfl, HB, HIL, HX⟩ := hrel
  by_cases hlt : (i : Int) < (ks.length : Int)
  ·have HLT : Hid (i < ks.length) := hid_intro (by omega)
   have HLL : Hid (i < l.length) := hid_intro (by rw [← HLE.out]; exact HLT.out)
   obtain ⟨kb, kof, rfl, hkc⟩ := HK.out i HLT.out _ HB.out
   obtain ⟨a0, a1, a2, a3, a4, a5, a6, _, _, _, _, _, _, _⟩ := HA.out _ HB.out
   have HKD := hid_intro (kix_drop key ks 0 i HLT.out)
   obtain ⟨ky, hky⟩ : ∃ ky, ks.getD i ⟨#[]⟩ = ky := ⟨_, rfl⟩
   rw [hky] at hkc HKD
   have heq := eq_bytes ky key
   clear hky
   by_cases he : ky = key
   ·rw [decide_eq_true he] at heq
    have HE : Hid (kix key ks 0 = some i) := hid_intro (by rw [HX.out, HKD.out, if_pos he.symm, Nat.zero_add])
    obtain ⟨b, off, rfl, hce, hcal⟩ := HL.out i HLL.out _ HB.out
    have e0 : wr.cell? ⟨b, off + i * 7, none⟩ = some (G i 0) := hce 0 (by omega)
    have e1 := hce 1 (by omega)
    have e2 := hce 2 (by omega)
    have e3 := hce 3 (by omega)
    have e4 := hce 4 (by omega)
    have e5 := hce 5 (by omega)
    have e6 := hce 6 (by omega)
    have hil : (i : Int) < (l.length : Int) := by have := HLL.out; omega
    clear hce he
    go_wp2_with (first | (go_at_call 50; refine hcal.mono ?_; rintro r w2 ⟨f', rfl, hv', hb2⟩; obtain ⟨k', n', g', e', t', la, m', c', ka, km', kc2, f0, f1, f2, f3, f4, f5, f6⟩ := hv'.shape; have HV' := hid_intro hv'; have HB2 := hid_intro hb2; obtain ⟨z0, z1, z2, z3, z4, z5, z6, y0, y1, y2, y3, y4, y5, y6⟩ := HZ.out _ hb2; clear hv' hb2))
    refine bodyPost_ret (v := .tuple #[.agg #[.int .i64 k', .bool n', .string g', .int .i64 e', .string t', .slice la m' c', .slice ka km' kc2], .bool true]) (by simp [results, Tryz.results21, go_sem, *]) rfl ?_
    rw [HP.out]
    refine ⟨f', true, by simp only [va, f0, f1, f2, f3, f4, f5, f6], ?_, fun _ => ⟨i, HLL.out, HE.out, HV'.out.carry fun b hx _ => ⟨?_, fun h => h⟩⟩, fun h => Bool.noConfusion h⟩
    ·have hbw := bl_t HBV.out HB2.out
     with_reducible repeat (first | exact hbw | refine bl_s ?_ HWS.out _)
    ·rw [Below.heap_setCell _ _ _ _ hx, Below.heap_setCell _ _ _ _ hx, Below.heap_setCell _ _ _ _ hx, Below.heap_setCell _ _ _ _ hx, Below.heap_setCell _ _ _ _ hx, Below.heap_setCell _ _ _ _ hx, Below.heap_setCell _ _ _ _ hx]
   ·rw [decide_eq_false he] at heq
    have HE : Hid (kix key ks 0 = kix key (ks.drop (i + 1)) (0 + (i + 1))) := hid_intro (by rw [HX.out, HKD.out, if_neg (fun h => he h.symm)])
    clear he
    go_wp2_with fail
    go_roundg (ks.length - (i + 1))
    case measure => have := HLT.out; omega
    case rel => exact ⟨i + 1, rfl, by simp, HB, hid_intro HLT.out, HE⟩
  ·have HE : Hid (kix key ks 0 = none) := hid_intro (by
    rw [HX.out, List.drop_eq_nil_of_le (by have := HIL.out; omega)]; rfl)
   obtain ⟨z0, z1, z2, z3, z4, z5, z6, y0, y1, y2, y3, y4, y5, y6⟩ := HZ.out _ HB.out
   go_wp2
   refine bodyPost_ret (v := .tuple #[.agg #[.int .i64 0, .bool false, .string ⟨#[]⟩, .int .i64 0, .string ⟨#[]⟩, .slice none 0 0, .slice none 0 0], .bool false]) (by simp [results, Tryz.results21, go_sem, *]) rfl ?_
   rw [HP.out]
   refine ⟨zvF, false, rfl, ?_, fun h => Bool.noConfusion h, fun _ => ⟨HE.out, rfl⟩⟩
   have hbw := bl_t HBV.out HB.out
   with_reducible repeat (first | exact hbw | refine bl_s ?_ HWS.out _)
end Go.Proofs.YtjdboekanmfgpaaGreatDoor

namespace Go.Proofs.YtjdboekanmfgpaaGreatDoor
open Go.RowKit Go.Lib Go.Sort
attribute [local go_sem] setCell_drewN alloc_drewN

theorem vb_grow {B : Nat} {a w : World} (h : Below B a w) (hB : B ≤ w.heap.size) (n : Nat) (os : Array Obj) : Below B a (grow (w.drewN n) os) :=
 ⟨h.os, h.tape, h.output, by rw [size_grow]; exact Nat.le_trans h.size (Nat.le_add_right _ _), fun k hk => by
  rw [heap_grow_old _ _ (by show k < w.heap.size; omega)]
  exact h.block k hk⟩
/-- Two of n are alike. -/
def Alike (n : Nat) (cf : Nat → Nat → Int) : Prop := ∃ i j, i < n ∧ j < n ∧ i ≠ j ∧ cf i j = 0
/-- A way back is the other way round. -/
def AntiAt (n : Nat) (cf : Nat → Nat → Int) : Prop := ∀ i j, i < n → j < n → cf j i = - cf i j
theorem alike_near {n : Nat} {cf : Nat → Nat → Int} (hO : OrdAt n cf) (hA : AntiAt n cf) {ps : List Nat} (hs : SortedBy cf n ps) : Alike n cf ↔ ∃ i, i + 1 < n ∧ cf (ps.getD i 0) (ps.getD (i + 1) 0) = 0 := by
 obtain ⟨hp, hu⟩ := hs
 have hlen : ps.length = n := by rw [hp.length_eq, List.length_range]
 have hlt : ∀ i, i < n → ps.getD i 0 < n := fun i hi => by
  have : ps.getD i 0 ∈ ps := by rw [List.getD_eq_getElem?_getD, List.getElem?_eq_getElem (by omega)]; exact List.getElem_mem _
  exact List.mem_range.1 (hp.mem_iff.1 this)
 have hnd : ps.Nodup := hp.nodup_iff.2 List.nodup_range
 have hge : ∀ i j, i < j → j < n → cf (ps.getD i 0) (ps.getD j 0) ≤ 0 := fun i j hij hj => by
  have := List.pairwise_iff_getElem.1 hu i j (by omega) (by omega) hij
  have e1 : ps.getD i 0 = ps[i]'(by omega) := by simp [show i < ps.length by omega]
  have e2 : ps.getD j 0 = ps[j]'(by omega) := by simp [show j < ps.length by omega]
  have h1 := hA (ps.getD i 0) (ps.getD j 0) (hlt i (by omega)) (hlt j hj)
  rw [← e1, ← e2] at this
  omega
 constructor
 ·rintro ⟨x, y, hx, hy, hne, h0⟩
  obtain ⟨p, hp1, hp2⟩ := List.getElem_of_mem (hp.mem_iff.2 (List.mem_range.2 hx))
  obtain ⟨q, hq1, hq2⟩ := List.getElem_of_mem (hp.mem_iff.2 (List.mem_range.2 hy))
  have ep : ps.getD p 0 = x := by simp [hp1, hp2]
  have eq : ps.getD q 0 = y := by simp [hq1, hq2]
  have key : ∀ p q, p < q → q < n → cf (ps.getD p 0) (ps.getD q 0) = 0 → ∃ i, i + 1 < n ∧ cf (ps.getD i 0) (ps.getD (i + 1) 0) = 0 := by
   intro p q hpq hq h0
   refine ⟨p, by omega, ?_⟩
   have h1 := hge p (p + 1) (by omega) (by omega)
   by_cases e : q = p + 1
   ·rw [← e]; exact h0
   have h2 := hge (p + 1) q (by omega) hq
   have h3 := hA (ps.getD (p + 1) 0) (ps.getD q 0) (hlt _ (by omega)) (hlt _ hq)
   have h4 := hO.nt (ps.getD p 0) (ps.getD q 0) (ps.getD (p + 1) 0) (hlt _ (by omega)) (hlt _ hq) (hlt _ (by omega)) (by omega) (by omega)
   omega
  rcases Nat.lt_trichotomy p q with h | h | h
  ·exact key p q h (by omega) (by rw [ep, eq]; exact h0)
  ·subst h; exact absurd (ep.symm.trans eq) hne
  ·exact key q p h (by omega) (by have := hA x y hx hy; rw [ep, eq]; omega)
 ·rintro ⟨i, hi, h0⟩
  refine ⟨_, _, hlt i (by omega), hlt (i + 1) hi, ?_, h0⟩
  intro e
  have e1 : ps.getD i 0 = ps[i]'(by omega) := by simp [show i < ps.length by omega]
  have e2 : ps.getD (i + 1) 0 = ps[i + 1]'(by omega) := by simp [show i + 1 < ps.length by omega]
  rw [e1, e2] at e
  have := (List.getElem_inj hnd).1 e
  omega
/-- What anyAlike answers. -/
def AlP (w : World) (n : Nat) (cf : Nat → Nat → Int) (r : Ending) (w' : World) : Prop := ∃ b : Bool, r = .returned (.bool b) ∧ (b = true ↔ Alike n cf) ∧ Below w.heap.size w w'

set_option maxRecDepth 100000 in
set_option maxHeartbeats 3200000 in
theorem alike_any (n : Nat) (hn : n ≤ 1099511627776) (g : FuncId) (cb : Array Value) (cf : Nat → Nat → Int) (hO : OrdAt n cf) (hA : AntiAt n cf) (w : World) (hc : CmpAt w g cb n cf) :
  Calls Tryz.prog 54 #[.int .i64 (n : Int), .func (.func g) #[] cb] w (AlP w n cf) := by
 obtain ⟨P, hP⟩ : ∃ P : Ending → World → Prop, P = AlP w n cf := ⟨_, rfl⟩
 rw [← hP]
 have HP := hid_intro hP
 have cal := places_any n hn g cb cf hO w hc
 have HN := hid_intro (fun (ps : List Nat) (hs : SortedBy cf n ps) => alike_near hO hA hs)
 have HC := hid_intro hc.2
 have eg := hc.1
 have mixed : Tryz.prog.follows .mixedOrders = true := by kernel_rfl
 have hNI : (n : Int) ≤ 1099511627776 := by omega
 have hN0 : (0 : Int) ≤ (n : Int) := by omega
 clear hP hc hO hA hn
 go_enter Tryz.func54, Tryz.ntmps54
 go_wp2_with (first | (go_at_call 81; refine cal.mono ?_; rintro r w1 ⟨ps, v, rfl, hs, ⟨ao, cap, rfl, k1, k2, k3, k4⟩, hb⟩; have HS := hid_intro hs; have HB := hid_intro hb; clear hs hb))
 clear cal k3
 have hlen : ps.length = n := by rw [HS.out.1.length_eq, List.length_range]
 rw [pI_len, hlen] at k1 k4
 rw [pI_len, hlen]
 have HL := hid_intro hlen
 clear hlen k1 k2
 go_wp2_with fail
 go_loopg [12] (n) (fun m s12 wr => ∃ i : Nat, m = n - i ∧ s12 = .int .i64 (i : Int) ∧ Hid (i ≤ n ∧ Below w1.heap.size w1 wr ∧ ∀ j, j < i → j + 1 < n → cf (ps.getD j 0) (ps.getD (j + 1) 0) ≠ 0))
 case atStart => exact ⟨0, rfl, rfl, hid_intro ⟨Nat.zero_le _, Below.refl _ _, fun j hj => absurd hj (Nat.not_lt_zero _)⟩⟩
 case round =>
  obtain ⟨i, rfl, rfl, HI⟩ := hrel
  by_cases hlt : i + 1 < n
  ·have hI : (i : Int) < (n : Int) - 1 := by omega
   obtain ⟨b, off, rfl, _, hcell⟩ := k4.resolve_left (fun e => by have := congrArg List.length e; rw [pI_len, HL.out] at this; simp at this; omega)
   have hpi : (pI ps).length = n := by rw [pI_len]; exact HL.out
   have q0 := hcell i (by omega)
   have q1 := hcell (i + 1) (by omega)
   rw [pI_at (by rw [HL.out]; omega)] at q0 q1
   have hx : ps.getD i 0 < n := List.mem_range.1 (HS.out.1.mem_iff.1 (by rw [List.getD_eq_getElem?_getD, List.getElem?_eq_getElem (by rw [HL.out]; omega)]; exact List.getElem_mem _))
   have hy : ps.getD (i + 1) 0 < n := List.mem_range.1 (HS.out.1.mem_iff.1 (by rw [List.getD_eq_getElem?_getD, List.getElem?_eq_getElem (by rw [HL.out]; omega)]; exact List.getElem_mem _))
   have HXY : Hid (cf (ps.getD i 0) (ps.getD (i + 1) 0) = cf (ps.getD i 0) (ps.getD (i + 1) 0)) := hid_intro rfl
   obtain ⟨x, hxe⟩ : ∃ x, ps.getD i 0 = x := ⟨_, rfl⟩
   obtain ⟨y, hye⟩ : ∃ y, ps.getD (i + 1) 0 = y := ⟨_, rfl⟩
   rw [hxe] at q0 hx
   rw [hye] at q1 hy
   have HE := hid_intro (And.intro hxe hye)
   have hbw := vb_t HB.out HI.out.2.1
   have hlt0 := World.block_lt_of_cell? w1 _ q0
   have l0 := fun q os => cell_grown (w := wr) (a := ⟨b, off + i, none⟩) (by exact Nat.lt_of_lt_of_le hlt0 HI.out.2.1.size) ((HI.out.2.1.cell (p := ⟨b, off + i, none⟩) hlt0).trans q0) q os
   have l1 := fun q os => cell_grown (w := wr) (a := ⟨b, off + (i + 1), none⟩) (by exact Nat.lt_of_lt_of_le hlt0 HI.out.2.1.size) ((HI.out.2.1.cell (p := ⟨b, off + (i + 1), none⟩) hlt0).trans q1) q os
   have hcx := fun q os => Up.calls_grow (HC.out (grow (wr.drewN q) os) (vb_grow hbw hbw.size q os) x y hx hy)
   have HBR := hid_intro (fun q os => vb_grow HI.out.2.1 HI.out.2.1.size q os)
   have HBZ := hid_intro (fun q os => vb_grow hbw hbw.size q os)
   have HLT := hid_intro hlt
   have HCF := hid_intro (And.intro HI.out.1 HI.out.2.2)
   obtain ⟨i2, hi2⟩ : ∃ q, q = i + 1 := ⟨_, rfl⟩
   rw [← hi2] at l1
   have ea : ((i : Int) + 1).toNat = i2 := by omega
   have pa : (0 : Int) ≤ (i : Int) + 1 := by omega
   have ba : (i : Int) + 1 < (n : Int) := by omega
   have ra : IntKind.i64.wrap ((i : Int) + 1) = (i : Int) + 1 := by rw [IntKind.wrap_i64]; omega
   have hiN : (i : Int) < (n : Int) := by omega
   generalize hcv : cf x y = c at *
   have HCV := hid_intro hcv
   clear hxe hye q0 q1 hbw hlt0 hcell hpi hcv hlt k4 HXY HI hi2
   cases hz : c == 0 with
   | true =>
    go_wp2_with fail
    go_quiet_grown (first | (go_at_fn g; refine Calls.grown_of (hcx _ _)))
    go_wp2_with fail
    rw [HP.out]
    exact ⟨true, rfl, ⟨fun _ => (HN.out ps HS.out).2 ⟨i, HLT.out, by rw [HE.out.1, HE.out.2, HCV.out]; exact eq_of_beq hz⟩, fun _ => rfl⟩, HBZ.out _ _⟩
   | false =>
    go_wp2_with fail
    go_quiet_grown (first | (go_at_fn g; refine Calls.grown_of (hcx _ _)))
    go_wp2_with fail
    go_roundg (n - (i + 1))
    case measure => have := HLT.out; omega
    case rel => exact ⟨i + 1, rfl, by go_num, hid_intro ⟨by have := HLT.out; omega, HBR.out _ _, fun j hj hn2 => by
     rcases (by omega : j < i ∨ j = i) with hj | rfl
     ·exact HCF.out.2 j hj hn2
     ·rw [HE.out.1, HE.out.2, HCV.out]
      exact fun e => by rw [e] at hz; cases hz⟩⟩
  ·have hI : ¬ (i : Int) < (n : Int) - 1 := by omega
   have HLT := hid_intro hlt
   clear hlt k4
   go_wp2_with fail
   rw [HP.out]
   exact ⟨false, rfl, ⟨fun h => Bool.noConfusion h, fun h => by
    obtain ⟨j, h1, h2⟩ := (HN.out ps HS.out).1 h
    exact absurd h2 (HI.out.2.2 j (by have := HLT.out; omega) h1)⟩, vb_t HB.out HI.out.2.1⟩
end Go.Proofs.YtjdboekanmfgpaaGreatDoor
