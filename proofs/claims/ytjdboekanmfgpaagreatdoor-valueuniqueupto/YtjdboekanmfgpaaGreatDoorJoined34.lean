/-
  What value.Longest answers. No condition.
  Sorted objects, and others, compared. No condition.
  What value.Compare answers, where dec.Compare answers for numbers. Conditions: rows of at most 2^40.
  What value.Equal answers. Conditions: as value.Compare's.
  Sorted values: each is like itself, and the way back is the other way round. No condition.
  Sorted values stand in one order, if keys are as many as their kind asks. No condition.
-/
import Derived.Test.YtjdboekanmfgpaaGreatDoorJoined21
import Derived.Test.YtjdboekanmfgpaaGreatDoorJoined33
import Derived.Test.YtjdboekanmfgpaaGreatDoorJoined17
namespace Go.Proofs.YtjdboekanmfgpaaGreatDoor
open Go.RowKit Go.Lib Go.Sort
attribute [local go_sem] setCell_drewN alloc_drewN

def cntS (s : ByteArray) : Int := Lx.countS s.data.toList
def longK : List ByteArray → Int → Int
 | [], a => a
 | s :: r, a => longK r (max a (cntS s))
mutual
def longV : JV → Int
 | .mk _ _ _ _ t l ks => longL l (longK ks (cntS t))
def longL : List JV → Int → Int
 | [], a => a
 | v :: l, a => longL l (max a (longV v))
end

set_option maxRecDepth 100000 in
set_option maxHeartbeats 3200000 in
theorem longest_any (v : JV) : ∀ (f : Nat → Value) (w : World), VI w (fun _ => False) v f →
  Calls Tryz.prog 25 #[va f] w fun r w' => r = .returned (.int .i64 (longV v)) ∧ Below w.heap.size w w' := by
 induction v using JV.ind with
 | h k n g e t l ks ih =>
 intro f w hv
 obtain ⟨ao, ko, cap, kc, G, hf, hLI, hSI, _, hts⟩ := hv.li
 rw [hf]
 obtain ⟨W, hW⟩ : ∃ W, vbox w k n g e t (.slice ao l.length cap) (.slice ko ks.length kc) = W := ⟨_, rfl⟩
 have hb0 : Below w.heap.size w W := hW ▸ vb_a (Below.refl _ _) _
 have hlt : w.heap.size < W.heap.size := by rw [← hW]; simp [vbox]
 have hcell : ∀ o, W.cell? ⟨w.heap.size, o, none⟩ = (#[.int .i64 k, .bool n, .string g, .int .i64 e, .string t, .slice ao l.length cap, .slice ko ks.length kc] : Array Value)[o]? := fun o => by rw [← hW]; simp [vbox]
 have HS : Hid (∀ w', Below W.heap.size W w' → ∀ o, w'.cell? ⟨w.heap.size, o, none⟩ = (#[.int .i64 k, .bool n, .string g, .int .i64 e, .string t, .slice ao l.length cap, .slice ko ks.length kc] : Array Value)[o]?) := hid_intro (fun w' hb o => (hb.cell (p := ⟨w.heap.size, o, none⟩) hlt).trans (hcell o))
 have HT : Hid (∀ w', Calls Tryz.prog 51 #[.string t] w' fun r w'' => r = .returned (.int .i64 (cntS t)) ∧ w' = w'') := hid_intro (fun w' => (Lx.count_any t w' hts).mono fun _ _ h => ⟨h.1, h.2.symm⟩)
 have HK : Hid (∀ i (h : i < ks.length), (∀ w', Calls Tryz.prog 51 #[.string ks[i]] w' fun r w'' => r = .returned (.int .i64 (cntS ks[i])) ∧ w' = w'') ∧ ∀ w', Below W.heap.size W w' → ∃ b off, ko = some ⟨b, off, none⟩ ∧ w'.cell? ⟨b, off + i, none⟩ = some (.string ks[i])) := hid_intro (fun i h => by
  obtain ⟨ao', cap', e1, _, _, h3, h4⟩ := hSI
  injection e1 with e1 _ _
  subst e1
  obtain ⟨b, off, h5, _, h7⟩ := h4.resolve_left (fun e => by rw [e] at h; exact absurd h (by simp))
  refine ⟨fun w' => (Lx.count_any ks[i] w' (h3 _ (List.getElem_mem h))).mono fun _ _ h => ⟨h.1, h.2.symm⟩, fun w' hb => ⟨b, off, h5, ?_⟩⟩
  have hbb : Below w.heap.size w w' := vb_t hb0 hb
  exact (hbb.cell (p := ⟨b, off + i, none⟩) (World.block_lt_of_cell? w _ (h7 i h))).trans (h7 i h))
 have HIH : Hid (∀ i (h : i < l.length) w', Below W.heap.size W w' → ∃ b off, ao = some ⟨b, off, none⟩ ∧ (∀ j, j < 7 → w'.cell? ⟨b, off + i * 7 + j, none⟩ = some (G i j)) ∧ Calls Tryz.prog 25 #[.agg #[G i 0, G i 1, G i 2, G i 3, G i 4, G i 5, G i 6]] w' fun r w'' => r = .returned (.int .i64 (longV l[i])) ∧ Below W.heap.size W w'') := hid_intro (fun i h w' hb => by
  obtain ⟨b, off, cap', e1, hblt, hc⟩ := hLI.at h
  injection e1 with e1 _ _
  have hbb := vb_t hb0 hb
  refine ⟨b, off, e1, fun j hj => (hbb.cell (p := ⟨b, off + i * 7 + j, none⟩) hblt).trans (hc j hj), ?_⟩
  exact (ih l[i] (List.getElem_mem h) (G i) w' ((hLI.kept hbb).choose_spec.choose_spec.2.2.1 i h)).mono fun r w'' ⟨h1, h2⟩ => ⟨h1, vb_t hb h2⟩)
 have HBW := hid_intro hb0
 have hm : (l.length : Int) ≤ 9223372036854775807 := by obtain ⟨_, _, _, h, _⟩ := hLI; unfold maxLen at h; omega
 have hm2 : (ks.length : Int) ≤ 9223372036854775807 := by obtain ⟨_, _, _, h, h', _⟩ := hSI; unfold maxLen at h'; omega
 obtain ⟨P, hP⟩ : ∃ P : Ending → World → Prop, P = fun r w' => r = .returned (.int .i64 (longV (.mk k n g e t l ks))) ∧ Below w.heap.size w w' := ⟨_, rfl⟩
 rw [← hP]
 have HP := hid_intro hP
 have HV : Hid (longV (.mk k n g e t l ks) = longL l (longK ks (cntS t))) := hid_intro (by rw [longV])
 generalize longV (.mk k n g e t l ks) = R at *
 have q3 := hcell 3
 have q4 := hcell 4
 have q5 := hcell 5
 have q6 := hcell 6
 have HK0 : Hid (longK (ks.drop 0) (cntS t) = longK ks (cntS t)) := hid_intro rfl
 generalize hK : longK ks (cntS t) = K at *
 generalize cntS t = c0 at *
 unfold vbox at hW
 clear hv hLI hSI hb0 hcell hlt hP ih hK
 go_enter Tryz.func25, Tryz.ntmps25
 go_wp2_with (first | (go_at_call 51; refine (HT.out _).mono ?_; rintro r w1 ⟨rfl, rfl⟩))
 clear q3 q4 q5 q6
 go_loopg [3, 12] ks.length (fun gg s3 s12 wr => ∃ (i : Nat) (a : Int), i ≤ ks.length ∧ gg = ks.length - i ∧ s12 = .int .i64 (i : Int) ∧ s3 = .int .i64 a ∧ Hid (longK (ks.drop i) a = K) ∧ Hid (Below W.heap.size W wr))
 case atStart => exact ⟨0, c0, Nat.zero_le _, rfl, rfl, rfl, HK0, hid_intro (Below.refl _ _)⟩
 case round =>
  obtain ⟨i, a, hi, rfl, rfl, rfl, hh, HB⟩ := hrel
  by_cases h : i < ks.length
  ·have hI : (i : Int) < (ks.length : Int) := by omega
   obtain ⟨cal, hc⟩ := HK.out i h
   obtain ⟨b, off, rfl, hc⟩ := hc wr HB.out
   have q6 := HS.out wr HB.out 6
   have hh := hh.out
   rw [List.drop_eq_getElem_cons h, longK] at hh
   have HH := hid_intro hh
   clear hh
   generalize cntS ks[i] = S at *
   go_wp2_with (first | (go_at_call 51; refine (cal _).mono ?_; rintro r w1 ⟨rfl, rfl⟩))
   go_roundg (ks.length - (i + 1))
   case measure => omega
   case rel => exact ⟨i + 1, _, by omega, rfl, by go_num, rfl, HH, HB⟩
  ·have hI : ¬ ((i : Int) < (ks.length : Int)) := by omega
   have hh := hh.out
   rw [List.drop_eq_nil_of_le (by omega), longK] at hh
   subst hh
   have q5 := HS.out wr HB.out 5
   go_wp2_with fail
   clear q5
   go_loopg [3, 27] l.length (fun gg s3 s12 wr => ∃ (i : Nat) (a2 : Int), i ≤ l.length ∧ gg = l.length - i ∧ s12 = .int .i64 (i : Int) ∧ s3 = .int .i64 a2 ∧ Hid (longL (l.drop i) a2 = longL l a) ∧ Hid (Below W.heap.size W wr))
   case atStart => exact ⟨0, a, Nat.zero_le _, rfl, rfl, rfl, hid_intro rfl, HB⟩
   case round =>
    clear HB
    obtain ⟨i2, a2, hi2, rfl, rfl, rfl, hh, HB⟩ := hrel
    by_cases h2 : i2 < l.length
    ·have hI2 : (i2 : Int) < (l.length : Int) := by omega
     rename_i wr2
     obtain ⟨b, off, rfl, hc, cal⟩ := HIH.out i2 h2 _ HB.out
     have d0 := hc 0 (by omega)
     have d1 := hc 1 (by omega)
     have d2 := hc 2 (by omega)
     have d3 := hc 3 (by omega)
     have d4 := hc 4 (by omega)
     have d5 := hc 5 (by omega)
     have d6 := hc 6 (by omega)
     rw [Nat.add_zero] at d0
     have q5 := HS.out _ HB.out 5
     have hh := hh.out
     rw [List.drop_eq_getElem_cons h2, longL] at hh
     have HH := hid_intro hh
     clear hh hc
     generalize longV l[i2] = S at *
     go_wp2_with (first | (go_at_call 25; refine cal.mono ?_; rintro r w1 ⟨rfl, hb1⟩))
     go_roundg (l.length - (i2 + 1))
     case measure => omega
     case rel => exact ⟨i2 + 1, _, by omega, rfl, by go_num, rfl, HH, hid_intro hb1⟩
    ·have hI2 : ¬ ((i2 : Int) < (l.length : Int)) := by omega
     have hh := hh.out
     rw [List.drop_eq_nil_of_le (by omega), longL] at hh
     subst hh
     go_wp2_with fail
     rw [HP.out]
     exact ⟨by rw [HV.out], vb_t HBW.out HB.out⟩
end Go.Proofs.YtjdboekanmfgpaaGreatDoor

namespace Go.Proofs.YtjdboekanmfgpaaGreatDoor
open Go.RowKit Go.Lib Go.Sort

theorem srtM_len (l : List Mem) : (srtM l).length = l.length := (srtM_perm l).length_eq
theorem cmp_obj (V : Bool → ByteArray → Int → Int) (n n' : Bool) (g g' : ByteArray) (e e' : Int) (t t' : ByteArray) (l l' : List JV) (ks ks' : List ByteArray) (d : JV) {ps qs : List Nat} {N : Nat} (hla : ks.length = l.length) (hlb : ks'.length = l'.length) (hna : ks.Nodup) (hnb : ks'.Nodup) (ha : ks.length = N) (hb : ks'.length = N)
  (hp : SortedBy (byK ks) N ps) (hq : SortedBy (byK ks') N qs) :
  cmpS V (srt (.mk 6 n g e t l ks)) (srt (.mk 6 n' g' e' t' l' ks')) =
   th (fu (fun i => kc (ks.getD (ps.getD i 0) ByteArray.empty) (ks'.getD (qs.getD i 0) ByteArray.empty)) 0 N) (fu (fun i => cmpS V (srt (l.getD (ps.getD i 0) d)) (srt (l'.getD (qs.getD i 0) d))) 0 N) := by
 rw [obj_cmp (fun x y => cmpS V (srt x) (srt y)) d hla hlb hna hnb ha hb hp hq, srt_obj, srt_obj, cmpS, cmpL_lx]
 rw [show (srtM (ks.zip l)).map (fun m => srt m.2) = ((srtM (ks.zip l)).map (·.2)).map srt by rw [List.map_map]; rfl, show (srtM (ks'.zip l')).map (fun m => srt m.2) = ((srtM (ks'.zip l')).map (·.2)).map srt by rw [List.map_map]; rfl, lx_map (cmpS V) srt]
 have h1 : (ks.zip l).length = N := by rw [List.length_zip]; omega
 have h2 : (ks'.zip l').length = N := by rw [List.length_zip]; omega
 have e0 : ∀ x : Int, th 0 x = x := fun x => by unfold th; rw [if_pos rfl]
 simp only [List.length_map, srtM_len, h1, h2, si_refl, e0]
 rw [if_neg (by decide), if_neg (by decide), if_pos (Or.inr trivial)]
theorem cmp_obj_ne (V : Bool → ByteArray → Int → Int) (n n' : Bool) (g g' : ByteArray) (e e' : Int) (t t' : ByteArray) (l l' : List JV) (ks ks' : List ByteArray) (hla : ks.length = l.length) (hlb : ks'.length = l'.length) (h : l.length ≠ l'.length) :
  cmpS V (srt (.mk 6 n g e t l ks)) (srt (.mk 6 n' g' e' t' l' ks')) = si l.length l'.length := by
 rw [srt_obj, srt_obj, cmpS]
 have h1 : (ks.zip l).length = l.length := by rw [List.length_zip]; omega
 have h2 : (ks'.zip l').length = l'.length := by rw [List.length_zip]; omega
 have e0 : ∀ x : Int, th 0 x = x := fun x => by unfold th; rw [if_pos rfl]
 have h0 : si (l.length : Int) (l'.length : Int) ≠ 0 := fun h3 => h ((si_len _ _).1 h3)
 simp only [List.length_map, srtM_len, h1, h2, si_refl, e0]
 rw [if_neg (by decide), if_neg (by decide), if_pos (Or.inr trivial)]
 unfold th
 rw [if_neg h0]
/-- Of unlike kinds the kinds tell. -/
theorem cmp_kinds (V : Bool → ByteArray → Int → Int) (a b : JV) (h : a.kind ≠ b.kind) : cmpS V (srt a) (srt b) = si a.kind b.kind := by
 obtain ⟨k, n, g, e, t, l, ks⟩ := a
 obtain ⟨k', n', g', e', t', l', ks'⟩ := b
 have h0 : si k k' ≠ 0 := fun h2 => h (si_zero.1 h2)
 have e1 : ∀ k n g e t l ks, ∃ l2 ks2, srt (.mk k n g e t l ks) = .mk k n g e t l2 ks2 := fun k n g e t l ks => by
  unfold srt
  split
  ·exact ⟨_, _, rfl⟩
  ·exact ⟨_, _, rfl⟩
 obtain ⟨l2, ks2, e2⟩ := e1 k n g e t l ks
 obtain ⟨l3, ks3, e3⟩ := e1 k' n' g' e' t' l' ks'
 rw [e2, e3, cmpS]
 unfold th
 rw [if_neg h0]
 rfl
end Go.Proofs.YtjdboekanmfgpaaGreatDoor

namespace Go.Proofs.YtjdboekanmfgpaaGreatDoor
open Go.RowKit Go.Lib Go.Sort
attribute [local go_sem] setCell_drewN alloc_drewN

/-- dec.Compare at the numbers that may be. -/
def DecOK (V : Bool → ByteArray → Int → Int) (Num : Bool → ByteArray → Int → Prop) : Prop := ∀ n g e n' g' e' (w : World), Num n g e → Num n' g' e' → g.size ≤ maxLen → g'.size ≤ maxLen →
  Calls Tryz.prog 39 #[.agg #[.bool n, .string g, .int .i64 e], .agg #[.bool n', .string g', .int .i64 e']] w fun r w' => r = .returned (.tuple #[.int .i64 (si (V n g e) (V n' g' e')), .int .i64 0]) ∧ Below w.heap.size w w'

set_option maxRecDepth 100000 in
set_option maxHeartbeats 3200000 in
theorem vcompare_any (V : Bool → ByteArray → Int → Int) (Num : Bool → ByteArray → Int → Prop) (HD : DecOK V Num) (a : JV) : ∀ (b : JV) (f f' : Nat → Value) (w : World), okC Num a → okC Num b → VI w (fun _ => False) a f → VI w (fun _ => False) b f' →
    Calls Tryz.prog 16 #[va f, va f'] w fun r w' => r = .returned (.int .i64 (cmpS V (srt a) (srt b))) ∧ Below w.heap.size w w' := by
  induction a using JV.ind with
  | h k n g e t l ks ih =>
  intro b f f' w hoa hob hva hvb
  obtain ⟨k', n', g', e', t', l', ks'⟩ := b
  have d : JV := .mk 0 false ⟨#[]⟩ 0 ⟨#[]⟩ [] []
  obtain ⟨ao, ko, cap, kc1, G, e1, hla, hka, hgs, hts⟩ := hva.li
  obtain ⟨ao', ko', cap', kc2, G', e2, hlb, hkb, hgs', hts'⟩ := hvb.li
  rw [e1, e2]
  unfold okC at hoa hob
  have hcE : ∀ w', Below w.heap.size w w' → ∀ i j, i < l.length → j < l'.length → Calls Tryz.prog 16 #[va (G i), va (G' j)] w' fun r w'' => r = .returned (.int .i64 (cmpS V (srt (l.getD i d)) (srt (l'.getD j d)))) ∧ Below w'.heap.size w' w'' := fun w' hb i j hi hj => by
    have x1 : l.getD i d = l[i] := by simp [hi]
    have x2 : l'.getD j d = l'[j] := by simp [hj]
    rw [x1, x2]
    exact ih l[i] (List.getElem_mem hi) l'[j] (G i) (G' j) w' (okCL_mem hoa.2 _ (List.getElem_mem hi)) (okCL_mem hob.2 _ (List.getElem_mem hj)) ((hla.kept hb).choose_spec.choose_spec.2.2.1 i hi) ((hlb.kept hb).choose_spec.choose_spec.2.2.1 j hj)
  have hb2 : Below w.heap.size w (vbox (vbox w k n g e t (.slice ao l.length cap) (.slice ko ks.length kc1)) k' n' g' e' t' (.slice ao' l'.length cap') (.slice ko' ks'.length kc2)) := vb_a (vb_a (Below.refl _ _) _) _
  have hci := fun w' => kcmp_any k k' w'
  by_cases hk : k = k'
  · subst hk
    rw [si_refl] at hci
    have HB2 := hid_intro hb2
    by_cases k3 : k = 3
    · subst k3
      have hs : cmpS V (srt (.mk 3 n g e t l ks)) (srt (.mk 3 n' g' e' t' l' ks')) = si (V n g e) (V n' g' e') := by
        rw [srt, if_neg (by decide), srt, if_neg (by decide), cmpS]
        simp [si_refl, th]
      have hd := fun w' => HD n g e n' g' e' w' (hoa.1.2.2 rfl) (hob.1.2.2 rfl) hgs hgs'
      rw [hs]
      generalize si (V n g e) (V n' g' e') = x at *
      clear hs
      clear hcE hoa hob hva hvb e1 e2 hla hlb hka hkb ih hb2
      go_enter Tryz.func16, Tryz.ntmps16
      go_wp2_with (first | (go_at_call 38; (with_reducible refine (hci _).mono ?_); rintro r w1 ⟨rfl, rfl⟩) | (go_at_call 39; (with_reducible refine (hd _).mono ?_); rintro r w2 ⟨rfl, hb3⟩))
      go_ret
      exact ⟨rfl, vb_t HB2.out hb3⟩
    by_cases k4 : k = 4
    · subst k4
      have hs : cmpS V (srt (.mk 4 n g e t l ks)) (srt (.mk 4 n' g' e' t' l' ks')) = kc t t' := by
        rw [srt, if_neg (by decide), srt, if_neg (by decide), cmpS]
        simp [si_refl, th]
      have hd := fun w' => ucmp_any t t' w'
      rw [hs]
      generalize kc t t' = x at *
      clear hs
      clear hcE hoa hob hva hvb e1 e2 hla hlb hka hkb ih hb2
      go_enter Tryz.func16, Tryz.ntmps16
      go_wp2_with (first | (go_at_call 38; (with_reducible refine (hci _).mono ?_); rintro r w1 ⟨rfl, rfl⟩) | (go_at_call 40; (with_reducible refine (hd _).mono ?_); rintro r w2 ⟨rfl, rfl⟩))
      go_ret
      exact ⟨rfl, HB2.out⟩
    by_cases k5 : k = 5
    · subst k5
      have hs := cmp_arr V n n' g g' e e' t t' l l' ks ks' d
      have hd := arrays_any 5 5 n n' g g' e e' t t' _ _ (.slice ko ks.length kc1) (.slice ko' ks'.length kc2) l l' G G' hoa.1.1 _ (hla.kept hb2) (hlb.kept hb2) (fun i => cmpS V (srt (l.getD i d)) (srt (l'.getD i d))) (fun w' hb i hi hj => hcE w' (vb_t hb2 hb) i i hi hj)
      rw [hs]
      generalize th (si (l.length : Int) (l'.length : Int)) (fu (fun i => cmpS V (srt (l.getD i d)) (srt (l'.getD i d))) 0 l.length) = x at *
      unfold vbox at hd
      clear hs
      clear hcE hoa hob hva hvb e1 e2 hla hlb hka hkb ih hb2
      go_enter Tryz.func16, Tryz.ntmps16
      go_wp2_with (first | (go_at_call 38; (with_reducible refine (hci _).mono ?_); rintro r w1 ⟨rfl, rfl⟩) | (go_at_call 41; (with_reducible refine hd.mono ?_); rintro r w2 ⟨rfl, hb3⟩))
      go_ret
      exact ⟨rfl, vb_t HB2.out hb3⟩
    by_cases k6 : k = 6
    · subst k6
      obtain ⟨z1, z2⟩ := hoa.1.2.1 rfl
      obtain ⟨z3, z4⟩ := hob.1.2.1 rfl
      have hd : Calls Tryz.prog 42 #[.agg #[.int .i64 6, .bool n, .string g, .int .i64 e, .string t, .slice ao l.length cap, .slice ko ks.length kc1], .agg #[.int .i64 6, .bool n', .string g', .int .i64 e', .string t', .slice ao' l'.length cap', .slice ko' ks'.length kc2]]
          (vbox (vbox w 6 n g e t (.slice ao l.length cap) (.slice ko ks.length kc1)) 6 n' g' e' t' (.slice ao' l'.length cap') (.slice ko' ks'.length kc2)) fun r w' => r = .returned (.int .i64 (cmpS V (srt (.mk 6 n g e t l ks)) (srt (.mk 6 n' g' e' t' l' ks')))) ∧ Below (vbox (vbox w 6 n g e t (.slice ao l.length cap) (.slice ko ks.length kc1)) 6 n' g' e' t' (.slice ao' l'.length cap') (.slice ko' ks'.length kc2)).heap.size (vbox (vbox w 6 n g e t (.slice ao l.length cap) (.slice ko ks.length kc1)) 6 n' g' e' t' (.slice ao' l'.length cap') (.slice ko' ks'.length kc2)) w' := by
        by_cases hl : l.length = l'.length
        · refine (objects_like n n' g g' e e' t t' ao ao' ko ko' cap cap' kc1 kc2 l.length l'.length ks ks' hoa.1.1 hob.1.1 6 6 _ l.length (by omega) (by omega) (hka.carry fun b _ hlt => ⟨hb2.block b hlt, fun h => h⟩) (hkb.carry fun b _ hlt => ⟨hb2.block b hlt, fun h => h⟩) l l' G G' (hla.kept hb2) (hlb.kept hb2) (fun i j => cmpS V (srt (l.getD i d)) (srt (l'.getD j d))) (fun w' hb i j hi hj => hcE w' (vb_t hb2 hb) i j hi hj)).mono ?_
          rintro r w' ⟨ps, qs, s1, s2, h, hb⟩
          exact ⟨by rw [h, cmp_obj V n n' g g' e e' t t' l l' ks ks' d z1 z3 z2 z4 z1 (by omega) s1 s2], hb⟩
        · refine (objects_unlike n n' g g' e e' t t' ao ao' ko ko' cap cap' kc1 kc2 l.length l'.length ks.length ks'.length 6 6 _ (by omega)).mono ?_
          rintro r w' ⟨h, hb⟩
          exact ⟨by rw [h, cmp_obj_ne V n n' g g' e e' t t' l l' ks ks' z1 z3 hl, show min ks.length l.length = l.length by omega, show min ks'.length l'.length = l'.length by omega], hb⟩
      generalize cmpS V (srt (.mk 6 n g e t l ks)) (srt (.mk 6 n' g' e' t' l' ks')) = x at *
      unfold vbox at hd
      clear hcE hoa hob hva hvb e1 e2 hla hlb hka hkb ih hb2 z1 z2 z3 z4
      go_enter Tryz.func16, Tryz.ntmps16
      go_wp2_with (first | (go_at_call 38; (with_reducible refine (hci _).mono ?_); rintro r w1 ⟨rfl, rfl⟩) | (go_at_call 42; (with_reducible refine hd.mono ?_); rintro r w2 ⟨rfl, hb3⟩))
      go_ret
      exact ⟨rfl, vb_t HB2.out hb3⟩
    have hs : cmpS V (srt (.mk k n g e t l ks)) (srt (.mk k n' g' e' t' l' ks')) = 0 := by
      rw [srt, if_neg k6, srt, if_neg k6, cmpS, if_neg k3, if_neg k4, if_neg (by omega), si_refl]
      rfl
    have b3 : (k == 3) = false := beq_eq_false_iff_ne.2 k3
    have b4 : (k == 4) = false := beq_eq_false_iff_ne.2 k4
    have b5 : (k == 5) = false := beq_eq_false_iff_ne.2 k5
    have b6 : (k == 6) = false := beq_eq_false_iff_ne.2 k6
    rw [hs]
    clear hs k3 k4 k5 k6
    clear hcE hoa hob hva hvb e1 e2 hla hlb hka hkb ih hb2
    go_enter Tryz.func16, Tryz.ntmps16
    go_wp2_with (first | (go_at_call 38; (with_reducible refine (hci _).mono ?_); rintro r w1 ⟨rfl, rfl⟩))
    go_ret
    exact ⟨rfl, HB2.out⟩
  · have hsp := cmp_kinds V (.mk k n g e t l ks) (.mk k' n' g' e' t' l' ks') hk
    have h0 : si k k' ≠ 0 := fun h => hk (si_zero.1 h)
    rw [hsp]
    show Calls _ _ _ _ fun r w' => r = .returned (.int .i64 (si k k')) ∧ Below w.heap.size w w'
    generalize si k k' = x at *
    have hz : (x != 0) = true := by simpa using h0
    have HB2 := hid_intro hb2
    clear hcE hsp h0 hk hoa hob hva hvb e1 e2 hla hlb hka hkb ih hb2
    go_enter Tryz.func16, Tryz.ntmps16
    go_wp2_with (first | (go_at_call 38; (with_reducible refine (hci _).mono ?_); rintro r w1 ⟨rfl, rfl⟩))
    go_ret
    exact ⟨rfl, HB2.out⟩
end Go.Proofs.YtjdboekanmfgpaaGreatDoor

namespace Go.Proofs.YtjdboekanmfgpaaGreatDoor
open Go.RowKit Go.Lib Go.Sort
attribute [local go_sem] setCell_drewN alloc_drewN

set_option maxRecDepth 100000 in
set_option maxHeartbeats 1600000 in
theorem vequal_any (V : Bool → ByteArray → Int → Int) (Num : Bool → ByteArray → Int → Prop) (HD : DecOK V Num) (a b : JV) (f f' : Nat → Value) (w : World) (ha : okC Num a) (hb : okC Num b) (hva : VI w (fun _ => False) a f) (hvb : VI w (fun _ => False) b f') :
  Calls Tryz.prog 14 #[va f, va f'] w fun r w' => r = .returned (.bool (cmpS V (srt a) (srt b) == 0)) ∧ Below w.heap.size w w' := by
 have hb2 : Below w.heap.size w ((w.alloc (.cells #[f 0, f 1, f 2, f 3, f 4, f 5, f 6] 28)).alloc (.cells #[f' 0, f' 1, f' 2, f' 3, f' 4, f' 5, f' 6] 28)) := vb_a (vb_a (Below.refl _ _) _) _
 have hc := vcompare_any V Num HD a b f f' _ ha hb (hva.kept hb2) (hvb.kept hb2)
 obtain ⟨k, n, g, e, t, l, ks⟩ := a
 obtain ⟨k', n', g', e', t', l', ks'⟩ := b
 obtain ⟨ao, ko, cap, kc1, G, e1, -⟩ := hva.li
 obtain ⟨ao', ko', cap', kc2, G', e2, -⟩ := hvb.li
 have q1 := e1
 have q2 := e2
 unfold va at q1 q2
 simp only [Value.agg.injEq, Array.mk.injEq, List.cons.injEq, and_true] at q1 q2
 obtain ⟨p0, p1, p2, p3, p4, p5, p6⟩ := q1
 obtain ⟨r0, r1, r2, r3, r4, r5, r6⟩ := q2
 rw [p0, p1, p2, p3, p4, p5, p6, r0, r1, r2, r3, r4, r5, r6] at hc hb2
 rw [e1, e2] at hc ⊢
 have HB2 := hid_intro hb2
 generalize cmpS V (srt (.mk k n g e t l ks)) (srt (.mk k' n' g' e' t' l' ks')) = x at *
 clear hva hvb ha hb e1 e2 hb2 p0 p1 p2 p3 p4 p5 p6 r0 r1 r2 r3 r4 r5 r6
 go_enter Tryz.func14, Tryz.ntmps14
 go_wp2_with (first | (go_at_call 16; (with_reducible refine hc.mono ?_); rintro r w2 ⟨rfl, hb3⟩))
 go_ret
 exact ⟨rfl, vb_t HB2.out hb3⟩
end Go.Proofs.YtjdboekanmfgpaaGreatDoor

namespace Go.Proofs.YtjdboekanmfgpaaGreatDoor

theorem cmpS_refl (V : Bool → ByteArray → Int → Int) (a : JV) : cmpS V a a = 0 := by
 induction a using JV.ind with
 | h k n g e t l ks ih =>
 rw [cmpS, cmpL_lx]
 refine th_refl (si_refl _) ?_
 split
 ·exact si_refl _
 ·split
  ·exact kc_refl _
  ·split
   ·exact th_refl (si_refl _) (th_refl (lx_refl fun a _ => kc_refl a) (lx_refl ih))
   ·rfl
theorem cmpS_anti (V : Bool → ByteArray → Int → Int) (a : JV) : ∀ b, cmpS V b a = - cmpS V a b := by
 induction a using JV.ind with
 | h k n g e t l ks ih =>
 intro b
 obtain ⟨k', n', g', e', t', l', ks'⟩ := b
 rw [cmpS, cmpS, cmpL_lx, cmpL_lx]
 by_cases hk : k = k'
 ·subst hk
  refine th_neg (si_anti _ _) ?_
  split
  ·exact si_anti _ _
  ·split
   ·exact kc_anti _ _
   ·split
    ·exact th_neg (si_anti _ _) (th_neg (lx_anti fun a _ b _ => kc_anti a b) (lx_anti fun a ha b _ => ih a ha b))
    ·rfl
 ·have h0 : si k k' ≠ 0 := fun h => hk (si_zero.1 h)
  have h1 : si k' k ≠ 0 := fun h => hk (si_zero.1 h).symm
  unfold th
  rw [if_neg h0, if_neg h1]
  exact si_anti _ _
end Go.Proofs.YtjdboekanmfgpaaGreatDoor

namespace Go.Proofs.YtjdboekanmfgpaaGreatDoor

mutual
/-- Keys as many as the kind asks, down to the innermost. -/
def wfS : JV → Prop
 | .mk k _ _ _ _ l ks => (k = 5 → ks = []) ∧ (k = 6 → ks.length = l.length) ∧ wfSL l
def wfSL : List JV → Prop
 | [] => True
 | v :: l => wfS v ∧ wfSL l
end
theorem wfSL_iff : ∀ l : List JV, wfSL l ↔ ∀ v ∈ l, wfS v
 | [] => by simp [wfSL]
 | v :: l => by
  unfold wfSL
  rw [wfSL_iff l]
  simp
/-- One way through three. -/
def Tr {α : Type} (c : α → α → Int) (a b d : α) : Prop := c a b ≤ 0 → c b d ≤ 0 → c a d ≤ 0
/-- All ways through three. -/
def T6 {α : Type} (c : α → α → Int) (a b d : α) : Prop := Tr c a b d ∧ Tr c a d b ∧ Tr c b a d ∧ Tr c b d a ∧ Tr c d a b ∧ Tr c d b a
theorem T6.sw1 {α : Type} {c : α → α → Int} {a b d : α} (h : T6 c a b d) : T6 c b a d := ⟨h.2.2.1, h.2.2.2.1, h.1, h.2.1, h.2.2.2.2.2, h.2.2.2.2.1⟩
theorem T6.sw2 {α : Type} {c : α → α → Int} {a b d : α} (h : T6 c a b d) : T6 c a d b := ⟨h.2.1, h.1, h.2.2.2.2.1, h.2.2.2.2.2, h.2.2.1, h.2.2.2.1⟩
theorem T6.four {α : Type} {c : α → α → Int} (hA : ∀ a b, c b a = - c a b) {a b d : α} (h : T6 c a b d) : (c a b ≤ 0 → c b d ≤ 0 → c a d ≤ 0) ∧ (c a b < 0 → c b d ≤ 0 → c a d < 0) ∧ (c a b ≤ 0 → c b d < 0 → c a d < 0) ∧ (c a b = 0 → c b d = 0 → c a d = 0) := by
 obtain ⟨h1, h2, h3, h4, h5, h6⟩ := h
 unfold Tr at *
 have e1 := hA a b
 have e2 := hA b d
 have e3 := hA a d
 refine ⟨h1, fun p q => ?_, fun p q => ?_, fun p q => ?_⟩
 ·have := h1 (by omega) q
  by_cases e : c a d = 0
  ·have := h4 q (by omega); omega
  ·omega
 ·have := h1 p (by omega)
  by_cases e : c a d = 0
  ·have := h5 (by omega) p; omega
  ·omega
 ·have := h1 (by omega) (by omega)
  have := h6 (by omega) (by omega)
  omega
theorem tp_len (N : Nat) : TP (fun l : List ByteArray => l.length = N) (lx kc) :=
 ⟨fun a _ => lx_refl fun x _ => kc_refl x, fun a b _ _ => lx_anti fun x _ y _ => kc_anti x y, fun a b d ha hb hd => lx_trans (S := fun _ => True) (fun x y _ _ => kc_anti x y) (by omega) (by omega) (fun _ _ => trivial) (fun _ _ => trivial) (fun _ _ => trivial)
  (fun x _ y _ z _ => ⟨tp_kc.trans x y z trivial trivial trivial, tp_kc.s1 trivial trivial trivial, tp_kc.s2 trivial trivial trivial, tp_kc.z trivial trivial trivial⟩)⟩
theorem cmpS_step (V : Bool → ByteArray → Int → Int) {k k' k'' : Int} {n n' n'' : Bool} {g g' g'' : ByteArray} {e e' e'' : Int} {t t' t'' : ByteArray} {l l' l'' : List JV} {ks ks' ks'' : List ByteArray}
  (w1 : wfS (.mk k n g e t l ks)) (w2 : wfS (.mk k' n' g' e' t' l' ks')) (w3 : wfS (.mk k'' n'' g'' e'' t'' l'' ks''))
  (ih : ∀ a ∈ l, ∀ b ∈ l', ∀ d ∈ l'', T6 (cmpS V) a b d) : Tr (cmpS V) (.mk k n g e t l ks) (.mk k' n' g' e' t' l' ks') (.mk k'' n'' g'' e'' t'' l'' ks'') := by
 unfold Tr
 rw [cmpS, cmpS, cmpS, cmpL_lx, cmpL_lx, cmpL_lx]
 refine th_trans (tp_si.s1 trivial trivial trivial) (tp_si.s2 trivial trivial trivial) (tp_si.z trivial trivial trivial) ?_
 intro h1 h2
 have h1 := si_zero.1 h1
 have h2 := si_zero.1 h2
 subst h1 h2
 by_cases k3 : k = 3
 ·simp only [if_pos k3]
  exact tp_si.trans _ _ _ trivial trivial trivial
 ·by_cases k4 : k = 4
  ·simp only [if_neg k3, if_pos k4]
   exact tp_kc.trans _ _ _ trivial trivial trivial
  ·by_cases k5 : k = 5 ∨ k = 6
   ·simp only [if_neg k3, if_neg k4, if_pos k5]
    refine th_trans (tp_si.s1 trivial trivial trivial) (tp_si.s2 trivial trivial trivial) (tp_si.z trivial trivial trivial) ?_
    intro h1 h2
    have h1 := si_zero.1 h1
    have h2 := si_zero.1 h2
    unfold wfS at w1 w2 w3
    have hk : ks.length = ks'.length ∧ ks'.length = ks''.length := by
     rcases k5 with k5 | k5
     ·rw [w1.1 k5, w2.1 k5, w3.1 k5]; exact ⟨rfl, rfl⟩
     ·rw [w1.2.1 k5, w2.2.1 k5, w3.2.1 k5]; omega
    have tp := tp_len ks.length
    refine th_trans (tp.s1 rfl hk.1.symm (hk.1.trans hk.2).symm) (tp.s2 rfl hk.1.symm (hk.1.trans hk.2).symm) (tp.z rfl hk.1.symm (hk.1.trans hk.2).symm) ?_
    intro _ _
    exact lx_trans (S := fun _ => True) (fun a b _ _ => cmpS_anti V a b) (by omega) (by omega) (fun _ _ => trivial) (fun _ _ => trivial) (fun _ _ => trivial) (fun a ha b hb d hd => (ih a ha b hb d hd).four (cmpS_anti V))
   ·simp only [if_neg k3, if_neg k4, if_neg k5]
    exact fun _ _ => Int.le_refl _
theorem cmpS_t6 (V : Bool → ByteArray → Int → Int) (a : JV) : ∀ b d, wfS a → wfS b → wfS d → T6 (cmpS V) a b d := by
 induction a using JV.ind with
 | h k n g e t l ks ih =>
 intro b d wa wb wd
 obtain ⟨k', n', g', e', t', l', ks'⟩ := b
 obtain ⟨k'', n'', g'', e'', t'', l'', ks''⟩ := d
 have H : ∀ a ∈ l, ∀ b ∈ l', ∀ d ∈ l'', T6 (cmpS V) a b d := fun a ha b hb d hd => by
  unfold wfS at wa wb wd
  exact ih a ha b d ((wfSL_iff l).1 wa.2.2 a ha) ((wfSL_iff l').1 wb.2.2 b hb) ((wfSL_iff l'').1 wd.2.2 d hd)
 refine ⟨cmpS_step V wa wb wd H, cmpS_step V wa wd wb fun a ha b hb d hd => (H a ha d hd b hb).sw2, cmpS_step V wb wa wd fun a ha b hb d hd => (H b hb a ha d hd).sw1, cmpS_step V wb wd wa fun a ha b hb d hd => (H d hd a ha b hb).sw1.sw2, cmpS_step V wd wa wb fun a ha b hb d hd => (H b hb d hd a ha).sw2.sw1, cmpS_step V wd wb wa fun a ha b hb d hd => (H d hd b hb a ha).sw2.sw1.sw2⟩
theorem tp_cmpS (V : Bool → ByteArray → Int → Int) : TP wfS (cmpS V) := ⟨fun a _ => cmpS_refl V a, fun a b _ _ => cmpS_anti V a b, fun a b d ha hb hd => (cmpS_t6 V a b d ha hb hd).1⟩
/-- Sorted, keys are as many as there are members. -/
theorem wfS_srt (a : JV) : wfS (srt a) := by
 induction a using JV.ind with
 | h k n g e t l ks ih =>
 by_cases k6 : k = 6
 ·subst k6
  rw [srt_obj]
  unfold wfS
  refine ⟨fun h => absurd h (by decide), fun _ => by simp, (wfSL_iff _).2 fun v hv => ?_⟩
  obtain ⟨m, hm, rfl⟩ := List.mem_map.1 hv
  have := (srtM_perm _).mem_iff.1 hm
  exact ih m.2 (List.of_mem_zip this).2
 ·rw [srt, if_neg k6]
  unfold wfS
  refine ⟨fun _ => rfl, fun h => absurd h k6, (wfSL_iff _).2 fun v hv => ?_⟩
  rw [srtL_map] at hv
  obtain ⟨x, hx, rfl⟩ := List.mem_map.1 hv
  exact ih x hx
/-- Sorted values in one order. -/
theorem tp_srt (V : Bool → ByteArray → Int → Int) : TP (fun _ => True) (fun a b => cmpS V (srt a) (srt b)) := (tp_cmpS V).imp srt fun a _ => wfS_srt a
end Go.Proofs.YtjdboekanmfgpaaGreatDoor
