/-
  What value.writeObject writes, where value.write writes the values. Conditions: as value.writeRow's.
  What value.isText, value.hasOthers, value.keysFit and value.fits answer. Conditions: lists and texts of at most 2^30, the table of code points as it is laid.
  What value.hasOthers answers, by kinds. No condition.
  What value.hasOthers answers, by kinds. No condition.
  What value.hasOthers answers, by kinds. No condition.
  What value.hasOthers answers, by kinds. No condition.
  What value.hasOthers answers, by kinds. No condition.
  What value.hasOthers answers, by kinds. No condition.
-/
import Derived.Test.YtjdboekanmfgpaaGreatDoorJoined30
import Derived.Test.YtjdboekanmfgpaaGreatDoorJoined13
import Derived.Test.YtjdboekanmfgpaaGreatDoorJoined29
namespace Go.Proofs.YtjdboekanmfgpaaGreatDoor
open Go.RowKit Go.Sort
attribute [local go_sem] setCell_drewN alloc_drewN

set_option maxRecDepth 100000 in
set_option maxHeartbeats 3200000 in
theorem wobj_any (w0 : World) (hT : Lx.Tab w0) (n : Bool) (g : ByteArray) (e : Int) (t : ByteArray) (l : List JV) (ks : List ByteArray) (ao ko : Option Addr) (cap kc' : Nat) (G : Nat → Nat → Value) (hl : l.length ≤ 1073741824) (hkl : ks.length = l.length) (hku : ∀ s ∈ ks, utB s = true) (hksz : ∀ s ∈ ks, s.size ≤ 1073741824)
    (hLI : LI w0 (fun _ => False) l (.slice ao l.length cap) G) (hSI : SI w0 (fun _ => False) ks (.slice ko ks.length kc')) (x : Nat → List UInt8) (M B : Nat) (hM : M ≤ 140737488355328) (hB0 : w0.heap.size ≤ B)
    (hc : ∀ j, j < l.length → ∀ w' l', Below w0.heap.size w0 w' → BB B l' w' → l'.length + (x j).length ≤ M → Calls Tryz.prog 32 #[.pointer (some ⟨B, 0, none⟩), .agg #[G j 0, G j 1, G j 2, G j 3, G j 4, G j 5, G j 6]] w' fun r w'' => r = .returned (.tuple #[]) ∧ BB B (l' ++ x j) w'' ∧ Kp B w' w'')
    (w : World) (hb : Below w0.heap.size w0 w) (l0 : List UInt8) (hB : BB B l0 w)
    (hlen : ∀ ps, SortedBy (byK ks) ks.length ps → (l0 ++ [123] ++ jn (fun i => qt (dK ks (ps.getD i 0)) ++ ([58] ++ x (ps.getD i 0))) ps.length ++ [125]).length ≤ M) :
    Calls Tryz.prog 63 #[.pointer (some ⟨B, 0, none⟩), .agg #[.int .i64 6, .bool n, .string g, .int .i64 e, .string t, .slice ao l.length cap, .slice ko ks.length kc']] w fun r w' => r = .returned (.tuple #[]) ∧ ∃ ps, SortedBy (byK ks) ks.length ps ∧ BB B (l0 ++ [123] ++ jn (fun i => qt (dK ks (ps.getD i 0)) ++ ([58] ++ x (ps.getD i 0))) ps.length ++ [125]) w' ∧ Kp B w w' := by
  obtain ⟨P, hP⟩ : ∃ P : Ending → World → Prop, P = fun r w' => r = .returned (.tuple #[]) ∧ ∃ ps, SortedBy (byK ks) ks.length ps ∧ BB B (l0 ++ [123] ++ jn (fun i => qt (dK ks (ps.getD i 0)) ++ ([58] ++ x (ps.getD i 0))) ps.length ++ [125]) w' ∧ Kp B w w' := ⟨_, rfl⟩
  rw [← hP]
  have HP := hid_intro hP
  have hBw := hB.lt
  -- the boxes
  obtain ⟨W1, hW1⟩ : ∃ W1, w.alloc (.cells #[.pointer (some ⟨B, 0, none⟩)] 55) = W1 := ⟨_, rfl⟩
  obtain ⟨W2, hW2⟩ : ∃ W2, W1.alloc (.cells #[.int .i64 6, .bool n, .string g, .int .i64 e, .string t, .slice ao l.length cap, .slice ko ks.length kc'] 28) = W2 := ⟨_, rfl⟩
  have hs1 : W1.heap.size = w.heap.size +  1 := by rw [← hW1]; simp
  have hs2 : W2.heap.size = w.heap.size + 2 := by rw [← hW2]; simp [hs1]
  have hb1 : Below w.heap.size w W1 := hW1 ▸ vb_a (Below.refl _ _) _
  have hb2 : Below W1.heap.size W1 W2 := hW2 ▸ vb_a (Below.refl _ _) _
  have hb02 : Below w.heap.size w W2 := vb_t hb1 hb2
  have ho : Bx W2 w.heap.size #[.pointer (some ⟨B, 0, none⟩)] 55 := (hW1 ▸ Bx.new w _ _ : Bx W1 w.heap.size _ _).bel hb2
  have hv : Bx W2 W1.heap.size #[.int .i64 6, .bool n, .string g, .int .i64 e, .string t, .slice ao l.length cap, .slice ko ks.length kc'] 28 := hW2 ▸ Bx.new W1 _ _
  have hSI2 : SI W2 (fun _ => False) ks (.slice ko ks.length kc') := hSI.carry fun b _ hlt => ⟨(hb.trans (hb02.mono hb.size)).block b hlt, fun h => h⟩
  have cal := rising_typ 6 n g e t ao ko l.length cap kc' ks (by omega) W2 hSI2
  rw [show min ks.length l.length = ks.length by omega] at cal
  have HB2 := hid_intro hb02
  have HV := hid_intro hv
  have HO := hid_intro ho
  have HSZ := hid_intro hs2
  have hcell : ∀ o, W2.cell? ⟨W1.heap.size, o, none⟩ = (#[.int .i64 6, .bool n, .string g, .int .i64 e, .string t, .slice ao l.length cap, .slice ko ks.length kc'] : Array Value)[o]? := fun o => hv.cell o
  have q0 := hcell 0
  have q1 := hcell 1
  have q2 := hcell 2
  have q3 := hcell 3
  have q4 := hcell 4
  have q5 := hcell 5
  have q6 := hcell 6
  have HR : Hid (∀ w3 (ps : List Nat) (pv : Value), Below W2.heap.size W2 w3 → SortedBy (byK ks) ks.length ps → II w3 (· < W2.heap.size) (pI ps) pv → TyV w3 pv →
      ∃ po pc, pv = .slice po ps.length pc ∧ ps.length ≤ 1073741824 ∧ Calls Tryz.prog 61 #[.pointer (some ⟨B, 0, none⟩), .string ⟨#[123, 125]⟩, .int .i64 (ps.length : Int), .func (.func 94) #[] #[.pointer (some ⟨w.heap.size, 0, none⟩), .pointer (some ⟨W1.heap.size, 0, none⟩), .pointer (some ⟨w3.heap.size, 0, none⟩)]] (w3.alloc (.cells #[pv] 67)) fun r w' => r = .returned (.tuple #[]) ∧ P r w') := hid_intro (by
    intro w3 ps pv hb3 hps hII hTy
    obtain ⟨po, pc, rfl, h1, h2, h3, h4⟩ := hII
    have hpl : ps.length = ks.length := by rw [hps.1.length_eq, List.length_range]
    rw [pI_len] at h1 h4 hTy ⊢
    refine ⟨po, pc, rfl, by omega, ?_⟩
    obtain ⟨W4, hW4⟩ : ∃ W4, w3.alloc (.cells #[.slice po ps.length pc] 67) = W4 := ⟨_, rfl⟩
    have hb4 : Below w3.heap.size w3 W4 := hW4 ▸ vb_a (Below.refl _ _) _
    have hb24 : Below W2.heap.size W2 W4 := vb_t hb3 hb4
    have hb04 : Below w.heap.size w W4 := vb_t hb02 hb24
    have hp4 : Bx W4 w3.heap.size #[.slice po ps.length pc] 67 := hW4 ▸ Bx.new w3 _ _
    have ho4 := ho.bel hb24
    have hv4 := hv.bel hb24
    rw [hW4]
    have hBB4 : BB B l0 W4 := hB.below hb04
    have hB4 : B < W4.heap.size := hBB4.lt
    have hs3 : W2.heap.size ≤ w3.heap.size := hb3.size
    have hrow := row_obj ps.length M (by omega) hM 94 #[.pointer (some ⟨w.heap.size, 0, none⟩), .pointer (some ⟨W1.heap.size, 0, none⟩), .pointer (some ⟨w3.heap.size, 0, none⟩)] (fun i => qt (dK ks (ps.getD i 0)) ++ ([58] ++ x (ps.getD i 0))) B l0 W4 hBB4 ⟨enters_member1, ?_⟩ (hlen ps hps)
    · refine hrow.mono ?_
      rintro r w' ⟨hr1, hr2, hr3⟩
      rw [hP]
      exact ⟨hr1, hr1, ps, hps, hr2, (Kp.of hb04 (by omega)).trans hr3⟩
    · intro w' l' i hk hbb hi hll
      -- the place, its key, its value
      have hne : pI ps ≠ [] := fun e => by
        have h0 : (pI ps).length = 0 := by rw [e]; rfl
        rw [pI_len] at h0
        omega
      obtain ⟨xb, xoff, rfl, hxb, hxc⟩ := h4.resolve_left hne
      have hpx := hxc i hi
      rw [pI_at hi] at hpx
      dsimp only at hll ⊢
      obtain ⟨j, hj⟩ : ∃ j, ps.getD i 0 = j := ⟨_, rfl⟩
      rw [hj] at hpx hll ⊢
      have hjk : j < ks.length := by
        rw [← hj]
        exact List.mem_range.1 (hps.1.mem_iff.1 (by rw [List.getD_eq_getElem?_getD, List.getElem?_eq_getElem hi]; exact List.getElem_mem _))
      have hjl : j < l.length := by omega
      obtain ⟨ao', cap', ek, _, _, _, hk4⟩ := id hSI
      injection ek with ek1 ek2 ek3
      subst ek1
      obtain ⟨kb, koff, rfl, _, hkc⟩ := hk4.resolve_left (fun e => by rw [e] at hjk; exact absurd hjk (by simp))
      obtain ⟨lb, loff, lc, el, hlb, hlc⟩ := hLI.at hjl
      injection el with el1 el2 el3
      subst el1 el3
      have hT4 : Tyd W4 xb 3 := by
        obtain ⟨c, fz, hh⟩ := hTy _ _ _ rfl
        exact ⟨c, fz, by rw [hb4.block _ (Array.getElem?_eq_some_iff.1 hh).1]; exact hh⟩
      have hxlt : xb < w3.heap.size := World.block_lt_of_cell? w3 _ hpx
      have hpx4 : W4.cell? ⟨xb, xoff + i, none⟩ = some (.int .i64 (j : Int)) := (hb4.cell (p := ⟨xb, xoff + i, none⟩) hxlt).trans hpx
      have hkey : dK ks j = ks[j] := by unfold dK; simp [hjk]
      have hall : ∀ w', Kp B W4 w' → MF w' B w.heap.size W1.heap.size w3.heap.size lb loff l.length cap kb koff ks.length kc' xb xoff ps.length pc i j ks[j] (G j) := fun w' hk => by
        have hbel : Below w0.heap.size w0 w' := (hb.trans (hb04.mono hb.size)).trans (hk.1.mono hB0)
        have o' := ho4.kp hk (by decide) (by omega)
        have v' := hv4.kp hk (by decide) (by omega)
        have p' := hp4.kp hk (by decide) (by omega)
        refine ⟨o'.cell 0, v'.cell 6, v'.cell 5, p'.cell 0, ?_, (hbel.cell (p := ⟨kb, koff + j, none⟩) (World.block_lt_of_cell? w0 _ (hkc j hjk))).trans (hkc j hjk), fun q hq => (hbel.cell (p := ⟨lb, loff + j * 7 + q, none⟩) hlb).trans (hlc q hq)⟩
        obtain ⟨c, fz, hh⟩ := hT4
        have hh' := hk.2 xb _ hh (by simp; omega) (fun c2 fz2 e => by injection e with _ e2 _; revert e2; decide)
        rw [World.cell?_of_block (w := W4) (w' := w') (hh'.trans hh.symm)]
        exact hpx4
      have hku' := hku ks[j] (List.getElem_mem hjk)
      have hks' := hksz ks[j] (List.getElem_mem hjk)
      have hbel' : Below w0.heap.size w0 w' := (hb.trans (hb04.mono hb.size)).trans (hk.1.mono hB0)
      show Calls Tryz.prog 94 #[.int .i64 (i : Int), .pointer (some ⟨w.heap.size, 0, none⟩), .pointer (some ⟨W1.heap.size, 0, none⟩), .pointer (some ⟨w3.heap.size, 0, none⟩)] w' _
      rw [hkey]
      rw [hkey] at hll
      simp only [List.length_append, List.length_cons, List.length_nil] at hll
      refine (member1_any w' B w.heap.size W1.heap.size w3.heap.size lb loff l.length cap kb koff ks.length kc' xb xoff ps.length pc i j ks[j] (G j) hi hjk hjl (by omega) (by omega) (by omega) (fun w'' hk2 => hall w'' (hk.trans hk2)) l' (qt ks[j]) (x j) hbb (by simp only [List.length_append, List.length_cons, List.length_nil]; omega) (fun w'' hk2 hb2 => ?_) (fun w'' hk2 hb2 => ?_))
      · exact (quoted_any ks[j] hku' (by omega) B l' w'' (hT.below (hbel'.trans (hk2.1.mono hB0))) hb2 (by omega)).mono fun r w3 ⟨h1, h2, h3⟩ => ⟨h1, h2, hk2.trans h3⟩
      · exact (hc j hjl w'' _ (hbel'.trans (hk2.1.mono hB0)) hb2 (by simp only [List.length_append, List.length_cons, List.length_nil]; omega)).mono fun r w3 ⟨h1, h2, h3⟩ => ⟨h1, h2, hk2.trans h3⟩)
  have HW1 := hid_intro hW1
  have HW2 := hid_intro hW2
  have hoc : W2.cell? ⟨w.heap.size, 0, none⟩ = some (.pointer (some ⟨B, 0, none⟩)) := ho.cell 0
  have HOC : Hid (∀ w3, Below W2.heap.size W2 w3 → ∀ o, (w3.alloc o).cell? ⟨w.heap.size, 0, none⟩ = some (.pointer (some ⟨B, 0, none⟩))) := hid_intro (fun w3 hb3 o => (ho.bel (vb_a hb3 o)).cell 0)
  clear hP hB hBw hs1 hs2 hb1 hb2 hb02 ho hv hSI2 hcell hc hlen hSI hLI hku hksz hkl hT hM hB0 hb hl HW1 HW2
  go_enter Tryz.func63, Tryz.ntmps63
  go_wp2_with (first | (go_at_call 44; (with_reducible refine cal.mono ?_); rintro r w3 ⟨ps, pv, rfl, hps, hII, hb3, hTy⟩; obtain ⟨po, pc, rfl, hpn, hrow⟩ := HR.out w3 ps _ hb3 hps hII hTy; have c0 := HOC.out w3 hb3; have hpI : (ps.length : Int) ≤ 1073741824 := by omega) | (go_at_call 61; refine hrow.mono ?_; rintro r w5 ⟨rfl, hr⟩))
  go_end0
  exact hr
end Go.Proofs.YtjdboekanmfgpaaGreatDoor

namespace Go.Proofs.YtjdboekanmfgpaaGreatDoor
open Go.RowKit Go.Lib
attribute [local go_sem] setCell_drewN alloc_drewN

set_option maxHeartbeats 800000 in
theorem isText_any (s : ByteArray) (w : World) (hT : Lx.Tab w) (hs : s.size ≤ maxLen) :
  Calls Tryz.prog 98 #[.string s] w fun r w' => r = .returned (.bool (utB s)) ∧ Below w.heap.size w w' := by
 have cv := Lx.conv_str w s
 have g1 := Lx.good_str s w hT hs
 have hb := Lx.bl_bytes w s
 unfold utB
 generalize (Lx.goodL s.data.toList).1 = n at *
 generalize (Lx.goodL s.data.toList).2 = gd at *
 clear hs hT
 go_enter Tryz.func98, Tryz.ntmps98
 go_wp2_with (go_at_call 120; refine g1.mono ?_; rintro r w2 ⟨rfl, q, rfl⟩)
 go_ret
 exact ⟨rfl, vb_n hb q⟩

theorem tl_nil {t : ByteArray} : t.toList = [] ↔ t = ⟨#[]⟩ := by
 have := eq_bytes t ⟨#[]⟩
 rw [Bool.eq_iff_iff] at this
 simpa using this


end Go.Proofs.YtjdboekanmfgpaaGreatDoor

namespace Go.Proofs.YtjdboekanmfgpaaGreatDoor
open Go.RowKit Go.Lib
attribute [local go_sem] setCell_drewN alloc_drewN

set_option maxRecDepth 100000 in
set_option maxHeartbeats 6400000 in
theorem others_3 (n : Bool) (g : ByteArray) (e : Int) (t : ByteArray) (ao ko : Option Addr) (ll lc kl kc' : Nat) (w : World) :
  Calls Tryz.prog 97 #[.agg #[.int .i64 3, .bool n, .string g, .int .i64 e, .string t, .slice ao ll lc, .slice ko kl kc']] w fun r w' => r = .returned (.bool (othB 3 n g e t ll kl)) ∧ Below w.heap.size w w' := by
 have hq := fun w => neq_dec n g e false ⟨#[]⟩ 0 w
 have hh := fun w => holds_any 3 n g e t (.slice ao ll lc) (.slice ko kl kc') w
 have hb : Below w.heap.size w (vbox w 3 n g e t (.slice ao ll lc) (.slice ko kl kc')) := vb_a (Below.refl _ _) _
 unfold vbox at hb
 have HC : Hid (∀ w2, Below (w.alloc (.cells #[.int .i64 3, .bool n, .string g, .int .i64 e, .string t, .slice ao ll lc, .slice ko kl kc'] 28)).heap.size (w.alloc (.cells #[.int .i64 3, .bool n, .string g, .int .i64 e, .string t, .slice ao ll lc, .slice ko kl kc'] 28)) w2 → w2.cell? ⟨w.heap.size, 5, none⟩ = some (.slice ao ll lc)) := hid_intro (fun w2 hb2 => (hb2.cell (p := ⟨w.heap.size, 5, none⟩) (by simp)).trans (by simp))
 rw [show vholds 3 = false by decide] at hh
 by_cases ht : t = ⟨#[]⟩
 ·skip
  by_cases hk : 0 < kl
  ·skip
   rw [show othB 3 n g e t ll kl = true from by simp [othB, ht, hk]]
   have ht2 : t.toList = [] := tl_nil.2 ht
   have hk2 : ¬ kl = 0 := by omega
   clear ht hk
   go_enter Tryz.func97, Tryz.ntmps97
   go_wp2_with (go_at_call 53; refine (hh _).mono ?_; rintro r w2 ⟨rfl, hb2⟩; have q3 := HC.out _ hb2)
   go_ret
   first | exact ⟨rfl, hb⟩ | exact ⟨rfl, vb_t hb hb2⟩
  ·skip
   by_cases hl : 0 < ll
   ·skip
    rw [show othB 3 n g e t ll kl = true from by simp [othB, ht, hk, hl]]
    have ht2 : t.toList = [] := tl_nil.2 ht
    obtain rfl : kl = 0 := by omega
    have hl2 : ¬ ll = 0 := by omega
    have hd : decide (0 < ll) = true := decide_eq_true hl
    clear ht hk hl
    go_enter Tryz.func97, Tryz.ntmps97
    go_wp2_with (go_at_call 53; refine (hh _).mono ?_; rintro r w2 ⟨rfl, hb2⟩; have q3 := HC.out _ hb2)
    go_ret
    exact ⟨by rw [← hd]; rfl, vb_t hb hb2⟩
   ·skip
    rw [show othB 3 n g e t ll kl = false from by simp [othB, ht, hk, hl]]
    have ht2 : t.toList = [] := tl_nil.2 ht
    obtain rfl : kl = 0 := by omega
    obtain rfl : ll = 0 := by omega
    clear ht hk hl
    go_enter Tryz.func97, Tryz.ntmps97
    go_wp2_with (go_at_call 53; refine (hh _).mono ?_; rintro r w2 ⟨rfl, hb2⟩; have q3 := HC.out _ hb2)
    go_ret
    first | exact ⟨rfl, hb⟩ | exact ⟨rfl, vb_t hb hb2⟩
 ·skip
  rw [show othB 3 n g e t ll kl = true from by simp [othB, ht]]
  have ht2 : ¬ t.toList = [] := fun h => ht (tl_nil.1 h)
  clear ht
  go_enter Tryz.func97, Tryz.ntmps97
  go_wp2_with (go_at_call 53; refine (hh _).mono ?_; rintro r w2 ⟨rfl, hb2⟩; have q3 := HC.out _ hb2)
  go_ret
  first | exact ⟨rfl, hb⟩ | exact ⟨rfl, vb_t hb hb2⟩


end Go.Proofs.YtjdboekanmfgpaaGreatDoor

namespace Go.Proofs.YtjdboekanmfgpaaGreatDoor
open Go.RowKit Go.Lib
attribute [local go_sem] setCell_drewN alloc_drewN

set_option maxRecDepth 100000 in
set_option maxHeartbeats 6400000 in
theorem others_4 (n : Bool) (g : ByteArray) (e : Int) (t : ByteArray) (ao ko : Option Addr) (ll lc kl kc' : Nat) (w : World) :
  Calls Tryz.prog 97 #[.agg #[.int .i64 4, .bool n, .string g, .int .i64 e, .string t, .slice ao ll lc, .slice ko kl kc']] w fun r w' => r = .returned (.bool (othB 4 n g e t ll kl)) ∧ Below w.heap.size w w' := by
 have hq := fun w => neq_dec n g e false ⟨#[]⟩ 0 w
 have hh := fun w => holds_any 4 n g e t (.slice ao ll lc) (.slice ko kl kc') w
 have hb : Below w.heap.size w (vbox w 4 n g e t (.slice ao ll lc) (.slice ko kl kc')) := vb_a (Below.refl _ _) _
 unfold vbox at hb
 have HC : Hid (∀ w2, Below (w.alloc (.cells #[.int .i64 4, .bool n, .string g, .int .i64 e, .string t, .slice ao ll lc, .slice ko kl kc'] 28)).heap.size (w.alloc (.cells #[.int .i64 4, .bool n, .string g, .int .i64 e, .string t, .slice ao ll lc, .slice ko kl kc'] 28)) w2 → w2.cell? ⟨w.heap.size, 5, none⟩ = some (.slice ao ll lc)) := hid_intro (fun w2 hb2 => (hb2.cell (p := ⟨w.heap.size, 5, none⟩) (by simp)).trans (by simp))
 rw [show vholds 4 = false by decide] at hh
 cases hz : eqD n g e false ⟨#[]⟩ 0
 ·skip
  rw [show othB 4 n g e t ll kl = true from by simp [othB, hz]]
  rw [hz] at hq
  clear hz
  go_enter Tryz.func97, Tryz.ntmps97
  go_wp2_with (go_at_call 53; refine (hh _).mono ?_; rintro r w2 ⟨rfl, hb2⟩; have q3 := HC.out _ hb2)
  go_ret
  first | exact ⟨rfl, hb⟩ | exact ⟨rfl, vb_t hb hb2⟩
 ·skip
  by_cases hk : 0 < kl
  ·skip
   rw [show othB 4 n g e t ll kl = true from by simp [othB, hz, hk]]
   rw [hz] at hq
   have hk2 : ¬ kl = 0 := by omega
   clear hz hk
   go_enter Tryz.func97, Tryz.ntmps97
   go_wp2_with (go_at_call 53; refine (hh _).mono ?_; rintro r w2 ⟨rfl, hb2⟩; have q3 := HC.out _ hb2)
   go_ret
   first | exact ⟨rfl, hb⟩ | exact ⟨rfl, vb_t hb hb2⟩
  ·skip
   by_cases hl : 0 < ll
   ·skip
    rw [show othB 4 n g e t ll kl = true from by simp [othB, hz, hk, hl]]
    rw [hz] at hq
    obtain rfl : kl = 0 := by omega
    have hl2 : ¬ ll = 0 := by omega
    have hd : decide (0 < ll) = true := decide_eq_true hl
    clear hz hk hl
    go_enter Tryz.func97, Tryz.ntmps97
    go_wp2_with (go_at_call 53; refine (hh _).mono ?_; rintro r w2 ⟨rfl, hb2⟩; have q3 := HC.out _ hb2)
    go_ret
    exact ⟨by rw [← hd]; rfl, vb_t hb hb2⟩
   ·skip
    rw [show othB 4 n g e t ll kl = false from by simp [othB, hz, hk, hl]]
    rw [hz] at hq
    obtain rfl : kl = 0 := by omega
    obtain rfl : ll = 0 := by omega
    clear hz hk hl
    go_enter Tryz.func97, Tryz.ntmps97
    go_wp2_with (go_at_call 53; refine (hh _).mono ?_; rintro r w2 ⟨rfl, hb2⟩; have q3 := HC.out _ hb2)
    go_ret
    first | exact ⟨rfl, hb⟩ | exact ⟨rfl, vb_t hb hb2⟩


end Go.Proofs.YtjdboekanmfgpaaGreatDoor

namespace Go.Proofs.YtjdboekanmfgpaaGreatDoor
open Go.RowKit Go.Lib
attribute [local go_sem] setCell_drewN alloc_drewN

set_option maxRecDepth 100000 in
set_option maxHeartbeats 6400000 in
theorem others_5 (n : Bool) (g : ByteArray) (e : Int) (t : ByteArray) (ao ko : Option Addr) (ll lc kl kc' : Nat) (w : World) :
  Calls Tryz.prog 97 #[.agg #[.int .i64 5, .bool n, .string g, .int .i64 e, .string t, .slice ao ll lc, .slice ko kl kc']] w fun r w' => r = .returned (.bool (othB 5 n g e t ll kl)) ∧ Below w.heap.size w w' := by
 have hq := fun w => neq_dec n g e false ⟨#[]⟩ 0 w
 have hh := fun w => holds_any 5 n g e t (.slice ao ll lc) (.slice ko kl kc') w
 have hb : Below w.heap.size w (vbox w 5 n g e t (.slice ao ll lc) (.slice ko kl kc')) := vb_a (Below.refl _ _) _
 unfold vbox at hb
 have HC : Hid (∀ w2, Below (w.alloc (.cells #[.int .i64 5, .bool n, .string g, .int .i64 e, .string t, .slice ao ll lc, .slice ko kl kc'] 28)).heap.size (w.alloc (.cells #[.int .i64 5, .bool n, .string g, .int .i64 e, .string t, .slice ao ll lc, .slice ko kl kc'] 28)) w2 → w2.cell? ⟨w.heap.size, 5, none⟩ = some (.slice ao ll lc)) := hid_intro (fun w2 hb2 => (hb2.cell (p := ⟨w.heap.size, 5, none⟩) (by simp)).trans (by simp))
 rw [show vholds 5 = true by decide] at hh
 cases hz : eqD n g e false ⟨#[]⟩ 0
 ·skip
  rw [show othB 5 n g e t ll kl = true from by simp [othB, hz]]
  rw [hz] at hq
  clear hz
  go_enter Tryz.func97, Tryz.ntmps97
  go_wp2_with (go_at_call 53; refine (hh _).mono ?_; rintro r w2 ⟨rfl, hb2⟩; have q3 := HC.out _ hb2)
  go_ret
  first | exact ⟨rfl, hb⟩ | exact ⟨rfl, vb_t hb hb2⟩
 ·skip
  by_cases ht : t = ⟨#[]⟩
  ·skip
   by_cases hk : 0 < kl
   ·skip
    rw [show othB 5 n g e t ll kl = true from by simp [othB, hz, ht, hk]]
    rw [hz] at hq
    have ht2 : t.toList = [] := tl_nil.2 ht
    have hk2 : ¬ kl = 0 := by omega
    clear ht hz hk
    go_enter Tryz.func97, Tryz.ntmps97
    go_wp2_with (go_at_call 53; refine (hh _).mono ?_; rintro r w2 ⟨rfl, hb2⟩; have q3 := HC.out _ hb2)
    go_ret
    first | exact ⟨rfl, hb⟩ | exact ⟨rfl, vb_t hb hb2⟩
   ·skip
    rw [show othB 5 n g e t ll kl = false from by simp [othB, hz, ht, hk]]
    rw [hz] at hq
    have ht2 : t.toList = [] := tl_nil.2 ht
    obtain rfl : kl = 0 := by omega
    clear ht hz hk
    go_enter Tryz.func97, Tryz.ntmps97
    go_wp2_with (go_at_call 53; refine (hh _).mono ?_; rintro r w2 ⟨rfl, hb2⟩; have q3 := HC.out _ hb2)
    go_ret
    first | exact ⟨rfl, hb⟩ | exact ⟨rfl, vb_t hb hb2⟩
  ·skip
   rw [show othB 5 n g e t ll kl = true from by simp [othB, hz, ht]]
   rw [hz] at hq
   have ht2 : ¬ t.toList = [] := fun h => ht (tl_nil.1 h)
   clear ht hz
   go_enter Tryz.func97, Tryz.ntmps97
   go_wp2_with (go_at_call 53; refine (hh _).mono ?_; rintro r w2 ⟨rfl, hb2⟩; have q3 := HC.out _ hb2)
   go_ret
   first | exact ⟨rfl, hb⟩ | exact ⟨rfl, vb_t hb hb2⟩


end Go.Proofs.YtjdboekanmfgpaaGreatDoor

namespace Go.Proofs.YtjdboekanmfgpaaGreatDoor
open Go.RowKit Go.Lib
attribute [local go_sem] setCell_drewN alloc_drewN

set_option maxRecDepth 100000 in
set_option maxHeartbeats 6400000 in
theorem others_6 (n : Bool) (g : ByteArray) (e : Int) (t : ByteArray) (ao ko : Option Addr) (ll lc kl kc' : Nat) (w : World) :
  Calls Tryz.prog 97 #[.agg #[.int .i64 6, .bool n, .string g, .int .i64 e, .string t, .slice ao ll lc, .slice ko kl kc']] w fun r w' => r = .returned (.bool (othB 6 n g e t ll kl)) ∧ Below w.heap.size w w' := by
 have hq := fun w => neq_dec n g e false ⟨#[]⟩ 0 w
 have hh := fun w => holds_any 6 n g e t (.slice ao ll lc) (.slice ko kl kc') w
 have hb : Below w.heap.size w (vbox w 6 n g e t (.slice ao ll lc) (.slice ko kl kc')) := vb_a (Below.refl _ _) _
 unfold vbox at hb
 have HC : Hid (∀ w2, Below (w.alloc (.cells #[.int .i64 6, .bool n, .string g, .int .i64 e, .string t, .slice ao ll lc, .slice ko kl kc'] 28)).heap.size (w.alloc (.cells #[.int .i64 6, .bool n, .string g, .int .i64 e, .string t, .slice ao ll lc, .slice ko kl kc'] 28)) w2 → w2.cell? ⟨w.heap.size, 5, none⟩ = some (.slice ao ll lc)) := hid_intro (fun w2 hb2 => (hb2.cell (p := ⟨w.heap.size, 5, none⟩) (by simp)).trans (by simp))
 rw [show vholds 6 = true by decide] at hh
 cases hz : eqD n g e false ⟨#[]⟩ 0
 ·skip
  rw [show othB 6 n g e t ll kl = true from by simp [othB, hz]]
  rw [hz] at hq
  clear hz
  go_enter Tryz.func97, Tryz.ntmps97
  go_wp2_with (go_at_call 53; refine (hh _).mono ?_; rintro r w2 ⟨rfl, hb2⟩; have q3 := HC.out _ hb2)
  go_ret
  first | exact ⟨rfl, hb⟩ | exact ⟨rfl, vb_t hb hb2⟩
 ·skip
  by_cases ht : t = ⟨#[]⟩
  ·skip
   rw [show othB 6 n g e t ll kl = false from by simp [othB, hz, ht]]
   rw [hz] at hq
   have ht2 : t.toList = [] := tl_nil.2 ht
   clear ht hz
   go_enter Tryz.func97, Tryz.ntmps97
   go_wp2_with (go_at_call 53; refine (hh _).mono ?_; rintro r w2 ⟨rfl, hb2⟩; have q3 := HC.out _ hb2)
   go_ret
   first | exact ⟨rfl, hb⟩ | exact ⟨rfl, vb_t hb hb2⟩
  ·skip
   rw [show othB 6 n g e t ll kl = true from by simp [othB, hz, ht]]
   rw [hz] at hq
   have ht2 : ¬ t.toList = [] := fun h => ht (tl_nil.1 h)
   clear ht hz
   go_enter Tryz.func97, Tryz.ntmps97
   go_wp2_with (go_at_call 53; refine (hh _).mono ?_; rintro r w2 ⟨rfl, hb2⟩; have q3 := HC.out _ hb2)
   go_ret
   first | exact ⟨rfl, hb⟩ | exact ⟨rfl, vb_t hb hb2⟩


end Go.Proofs.YtjdboekanmfgpaaGreatDoor

namespace Go.Proofs.YtjdboekanmfgpaaGreatDoor
open Go.RowKit Go.Lib
attribute [local go_sem] setCell_drewN alloc_drewN

set_option maxRecDepth 100000 in
set_option maxHeartbeats 6400000 in
theorem others_o (k : Int) (e3 : ¬ k = 3) (e4 : ¬ k = 4) (e5 : ¬ k = 5) (e6 : ¬ k = 6) (n : Bool) (g : ByteArray) (e : Int) (t : ByteArray) (ao ko : Option Addr) (ll lc kl kc' : Nat) (w : World) :
  Calls Tryz.prog 97 #[.agg #[.int .i64 k, .bool n, .string g, .int .i64 e, .string t, .slice ao ll lc, .slice ko kl kc']] w fun r w' => r = .returned (.bool (othB k n g e t ll kl)) ∧ Below w.heap.size w w' := by
 have hq := fun w => neq_dec n g e false ⟨#[]⟩ 0 w
 have hh := fun w => holds_any k n g e t (.slice ao ll lc) (.slice ko kl kc') w
 have hb : Below w.heap.size w (vbox w k n g e t (.slice ao ll lc) (.slice ko kl kc')) := vb_a (Below.refl _ _) _
 unfold vbox at hb
 have HC : Hid (∀ w2, Below (w.alloc (.cells #[.int .i64 k, .bool n, .string g, .int .i64 e, .string t, .slice ao ll lc, .slice ko kl kc'] 28)).heap.size (w.alloc (.cells #[.int .i64 k, .bool n, .string g, .int .i64 e, .string t, .slice ao ll lc, .slice ko kl kc'] 28)) w2 → w2.cell? ⟨w.heap.size, 5, none⟩ = some (.slice ao ll lc)) := hid_intro (fun w2 hb2 => (hb2.cell (p := ⟨w.heap.size, 5, none⟩) (by simp)).trans (by simp))
 have b3 : (k == 3) = false := beq_eq_false_iff_ne.2 e3
 have b4 : (k == 4) = false := beq_eq_false_iff_ne.2 e4
 have b5 : (k == 5) = false := beq_eq_false_iff_ne.2 e5
 have b6 : (k == 6) = false := beq_eq_false_iff_ne.2 e6
 have c3 : (k != 3) = true := by rw [bne, b3]; rfl
 have c4 : (k != 4) = true := by rw [bne, b4]; rfl
 have c5 : (k != 5) = true := by rw [bne, b5]; rfl
 have c6 : (k != 6) = true := by rw [bne, b6]; rfl
 rw [show vholds k = false by simp [vholds, e5, e6]] at hh
 cases hz : eqD n g e false ⟨#[]⟩ 0
 ·skip
  rw [show othB k n g e t ll kl = true from by simp [othB, hz, b3, b4, b5, b6]]
  rw [hz] at hq
  clear hz
  go_enter Tryz.func97, Tryz.ntmps97
  go_wp2_with (go_at_call 53; refine (hh _).mono ?_; rintro r w2 ⟨rfl, hb2⟩; have q3 := HC.out _ hb2)
  go_ret
  first | exact ⟨rfl, hb⟩ | exact ⟨rfl, vb_t hb hb2⟩
 ·skip
  by_cases ht : t = ⟨#[]⟩
  ·skip
   by_cases hk : 0 < kl
   ·skip
    rw [show othB k n g e t ll kl = true from by simp [othB, hz, ht, hk, b3, b4, b5, b6]]
    rw [hz] at hq
    have ht2 : t.toList = [] := tl_nil.2 ht
    have hk2 : ¬ kl = 0 := by omega
    clear ht hz hk
    go_enter Tryz.func97, Tryz.ntmps97
    go_wp2_with (go_at_call 53; refine (hh _).mono ?_; rintro r w2 ⟨rfl, hb2⟩; have q3 := HC.out _ hb2)
    go_ret
    first | exact ⟨rfl, hb⟩ | exact ⟨rfl, vb_t hb hb2⟩
   ·skip
    by_cases hl : 0 < ll
    ·skip
     rw [show othB k n g e t ll kl = true from by simp [othB, hz, ht, hk, hl, b3, b4, b5, b6]]
     rw [hz] at hq
     have ht2 : t.toList = [] := tl_nil.2 ht
     obtain rfl : kl = 0 := by omega
     have hl2 : ¬ ll = 0 := by omega
     have hd : decide (0 < ll) = true := decide_eq_true hl
     clear ht hz hk hl
     go_enter Tryz.func97, Tryz.ntmps97
     go_wp2_with (go_at_call 53; refine (hh _).mono ?_; rintro r w2 ⟨rfl, hb2⟩; have q3 := HC.out _ hb2)
     go_ret
     exact ⟨by rw [← hd]; rfl, vb_t hb hb2⟩
    ·skip
     rw [show othB k n g e t ll kl = false from by simp [othB, hz, ht, hk, hl, b3, b4, b5, b6]]
     rw [hz] at hq
     have ht2 : t.toList = [] := tl_nil.2 ht
     obtain rfl : kl = 0 := by omega
     obtain rfl : ll = 0 := by omega
     clear ht hz hk hl
     go_enter Tryz.func97, Tryz.ntmps97
     go_wp2_with (go_at_call 53; refine (hh _).mono ?_; rintro r w2 ⟨rfl, hb2⟩; have q3 := HC.out _ hb2)
     go_ret
     first | exact ⟨rfl, hb⟩ | exact ⟨rfl, vb_t hb hb2⟩
  ·skip
   rw [show othB k n g e t ll kl = true from by simp [othB, hz, ht, b3, b4, b5, b6]]
   rw [hz] at hq
   have ht2 : ¬ t.toList = [] := fun h => ht (tl_nil.1 h)
   clear ht hz
   go_enter Tryz.func97, Tryz.ntmps97
   go_wp2_with (go_at_call 53; refine (hh _).mono ?_; rintro r w2 ⟨rfl, hb2⟩; have q3 := HC.out _ hb2)
   go_ret
   first | exact ⟨rfl, hb⟩ | exact ⟨rfl, vb_t hb hb2⟩


end Go.Proofs.YtjdboekanmfgpaaGreatDoor

namespace Go.Proofs.YtjdboekanmfgpaaGreatDoor
open Go.RowKit Go.Lib
attribute [local go_sem] setCell_drewN alloc_drewN

theorem others_any (k : Int) (n : Bool) (g : ByteArray) (e : Int) (t : ByteArray) (ao ko : Option Addr) (ll lc kl kc' : Nat) (w : World) :
  Calls Tryz.prog 97 #[.agg #[.int .i64 k, .bool n, .string g, .int .i64 e, .string t, .slice ao ll lc, .slice ko kl kc']] w fun r w' => r = .returned (.bool (othB k n g e t ll kl)) ∧ Below w.heap.size w w' := by
 by_cases e3 : k = 3
 ·subst e3; exact others_3 n g e t ao ko ll lc kl kc' w
 by_cases e4 : k = 4
 ·subst e4; exact others_4 n g e t ao ko ll lc kl kc' w
 by_cases e5 : k = 5
 ·subst e5; exact others_5 n g e t ao ko ll lc kl kc' w
 by_cases e6 : k = 6
 ·subst e6; exact others_6 n g e t ao ko ll lc kl kc' w
 exact others_o k e3 e4 e5 e6 n g e t ao ko ll lc kl kc' w
end Go.Proofs.YtjdboekanmfgpaaGreatDoor
