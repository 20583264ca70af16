/-
  What value.write writes: the text of the value, sorted. Conditions: lists and texts of at most 2^30, at most 2^47 bytes; the tables as they are laid.
  What value.Text answers: the text of the value, sorted, or an error. Conditions: as value.write's.
  Plain mathematics: a whole step of UTF-8, and what the model's own decoding of a text makes of it. No condition but that the bytes are those of the text.
  What utf.Count answers: how many bytes of a text do not follow others. No condition.
-/
import Derived.Test.YtjdboekanmfgpaaGreatDoorJoined31
import Derived.Test.YtjdboekanmfgpaaGreatDoorJoined32
import Derived.Test.YtjdboekanmfgpaaGreatDoorJoined7
namespace Go.Proofs.YtjdboekanmfgpaaGreatDoor
open Go.RowKit Go.Sort
attribute [local go_sem] setCell_drewN alloc_drewN

abbrev Pow (w : World) : Prop := Lib.TabIs Tryz.prog w "internal/strconv.uint64pow10" .u64 Lib.pow10Tab
theorem srt_low {k : Int} {n : Bool} {g : ByteArray} {e : Int} {t : ByteArray} {l : List JV} {ks : List ByteArray} (h : k ≠ 6) : srt (.mk k n g e t l ks) = .mk k n g e t (srtL l) [] := by rw [srt, if_neg h]
theorem may_parts {d : Nat} {k : Int} {n : Bool} {g : ByteArray} {e : Int} {t : ByteArray} {l : List JV} {ks : List ByteArray} (h : mayB d (.mk k n g e t l ks) = true) :
  0 ≤ k ∧ k ≤ 6 ∧ goodB n g e = true ∧ utB t = true ∧ (k = 6 → ks.length = l.length ∧ (∀ s ∈ ks, utB s = true) ∧ ks.Nodup) ∧ ∀ v ∈ l, mayB (d - 1) v = true := by
 unfold mayB at h
 simp only [Bool.and_eq_true] at h
 obtain ⟨-, hf, hl⟩ := h
 unfold fitB at hf
 simp only [Bool.and_eq_true, decide_eq_true_eq] at hf
 obtain ⟨h0, h6, -, hg, hu, hk⟩ := hf
 refine ⟨h0, h6, hg, hu, fun e6 => ?_, mayBL_mem hl⟩
 subst e6
 unfold keyB at hk
 simp at hk
 exact ⟨hk.1.1, hk.1.2, hk.2⟩

set_option maxRecDepth 100000 in
set_option maxHeartbeats 6400000 in
theorem write_any (w0 : World) (hT : Lx.Tab w0) (hPw : Pow w0) (v : JV) : Sm v → ∀ (d : Nat), mayB d v = true → ∀ (f : Nat → Value) (B : Nat) (l0 : List UInt8) (w : World), VI w0 (fun _ => False) v f → w0.heap.size ≤ B → Below w0.heap.size w0 w → BB B l0 w → l0.length + (txV (srt v)).length ≤ 140737488355328 →
  Calls Tryz.prog 32 #[.pointer (some ⟨B, 0, none⟩), va f] w fun r w' => r = .returned (.tuple #[]) ∧ BB B (l0 ++ txV (srt v)) w' ∧ Kp B w w' := by
 induction v using JV.ind with
 | h k n g e t l ks ih =>
 intro hsm d hm f B l0 w hv hB0 hb hB hlen
 cases hsm with
 | mk s1 s2 s3 s4 s5 s6 =>
 obtain ⟨k0, k6, hg, hu, hk6, hml⟩ := may_parts hm
 obtain ⟨ao, ko, cap, kc', G, hf, hLI, hSI, _, _⟩ := hv.li
 rw [hf]
 obtain ⟨P, hP⟩ : ∃ P : Ending → World → Prop, P = fun r w' => r = .returned (.tuple #[]) ∧ BB B (l0 ++ txV (srt (.mk k n g e t l ks))) w' ∧ Kp B w w' := ⟨_, rfl⟩
 rw [← hP]
 have HP := hid_intro hP
 have hBw := hB.lt
 obtain ⟨W1, hW1⟩ : ∃ W1, w.alloc (.cells #[.pointer (some ⟨B, 0, none⟩)] 55) = W1 := ⟨_, rfl⟩
 obtain ⟨W2, hW2⟩ : ∃ W2, W1.alloc (.cells #[.int .i64 k, .bool n, .string g, .int .i64 e, .string t, .slice ao l.length cap, .slice ko ks.length kc'] 28) = W2 := ⟨_, rfl⟩
 have hs1 : W1.heap.size = w.heap.size + 1 := by rw [← hW1]; simp
 have hs2 : W2.heap.size = w.heap.size + 2 := by rw [← hW2]; simp [hs1]
 have hb1 : Below w.heap.size w W1 := hW1 ▸ vb_a (Below.refl _ _) _
 have hb2 : Below W1.heap.size W1 W2 := hW2 ▸ vb_a (Below.refl _ _) _
 have hb02 : Below w.heap.size w W2 := vb_t hb1 hb2
 have ho : Bx W2 w.heap.size #[.pointer (some ⟨B, 0, none⟩)] 55 := (hW1 ▸ Bx.new w _ _ : Bx W1 w.heap.size _ _).bel hb2
 have hvb : Bx W2 W1.heap.size #[.int .i64 k, .bool n, .string g, .int .i64 e, .string t, .slice ao l.length cap, .slice ko ks.length kc'] 28 := hW2 ▸ Bx.new W1 _ _
 have hbW2 : Below w0.heap.size w0 W2 := hb.trans (hb02.mono hb.size)
 have hk2 : Kp B w W2 := Kp.of hb02 (by omega)
 have hB2 : BB B l0 W2 := hB.below hb02
 have HS : Hid (∀ s : ByteArray, l0.length + s.size ≤ 140737488355328 → ∀ w', Below W2.heap.size W2 w' → Calls Tryz.prog 58 #[.pointer (some ⟨B, 0, none⟩), .string s] w' fun e w'' => (∃ v, e = .returned v) ∧ BB B (l0 ++ s.data.toList) w'' ∧ Kp B w w'') := hid_intro (fun s hs w' hb' =>
  (wstrK B l0 s w' (hB2.below hb') hs).mono fun e w'' ⟨h1, h2, h3⟩ => ⟨⟨_, h1⟩, h2, (hk2.trans (Kp.of hb' hB2.2)).trans h3⟩)
 have ccell : ∀ o, W2.cell? ⟨W1.heap.size, o, none⟩ = (#[.int .i64 k, .bool n, .string g, .int .i64 e, .string t, .slice ao l.length cap, .slice ko ks.length kc'] : Array Value)[o]? := fun o => hvb.cell o
 have q0 := ccell 0
 have q1 := ccell 1
 have q2 := ccell 2
 have q3 := ccell 3
 have q4 := ccell 4
 have q5 := ccell 5
 have q6 := ccell 6
 have hoc : W2.cell? ⟨w.heap.size, 0, none⟩ = some (.pointer (some ⟨B, 0, none⟩)) := ho.cell 0
 have HOC : Hid (∀ w3, Below W2.heap.size W2 w3 → w3.cell? ⟨w.heap.size, 0, none⟩ = some (.pointer (some ⟨B, 0, none⟩))) := hid_intro (fun w3 hb3 => (ho.bel hb3).cell 0)
 have hmf : ∀ (fn : Fn) (first cap : Array Value) (w : World), (Instr.makeFunc fn first cap).run Tryz.prog w = .ok (.func fn first cap) w := fun _ _ _ _ => rfl
 have dflt : JV := .mk 0 false ⟨#[]⟩ 0 ⟨#[]⟩ [] []
 -- by kinds
 rcases (by omega : k = 0 ∨ k = 1 ∨ k = 2 ∨ k = 3 ∨ k = 4 ∨ k = 5 ∨ k = 6) with rfl | rfl | rfl | rfl | rfl | rfl | rfl
 ·have htx : txV (srt (.mk 0 n g e t l ks)) = [110, 117, 108, 108] := by rw [srt_low (by decide), txV, if_pos rfl]
  rw [htx] at hP hlen
  have cal := HS.out ⟨#[110, 117, 108, 108]⟩ hlen W2 (Below.refl _ _)
  clear hP hB hBw hs1 hs2 hb1 hb2 hb02 ho hvb hbW2 hk2 hB2 HS ccell hlen ih hm hv hB0 hb k0 k6 hg hu hk6 hml hf hLI hSI s1 s2 s3 s4 s5 s6 hT hPw
  go_enter Tryz.func32, Tryz.ntmps32
  go_wp2_with (first | (go_at_call 58; refine cal.mono ?_; rintro r w3 ⟨⟨v3, rfl⟩, h1, h2⟩))
  go_end0
  rw [HP.out, htx]
  exact ⟨rfl, h1, h2⟩
 ·have htx : txV (srt (.mk 1 n g e t l ks)) = [102, 97, 108, 115, 101] := by rw [srt_low (by decide), txV, if_neg (by decide), if_pos rfl]
  rw [htx] at hP hlen
  have cal := HS.out ⟨#[102, 97, 108, 115, 101]⟩ hlen W2 (Below.refl _ _)
  clear hP hB hBw hs1 hs2 hb1 hb2 hb02 ho hvb hbW2 hk2 hB2 HS ccell hlen ih hm hv hB0 hb k0 k6 hg hu hk6 hml hf hLI hSI s1 s2 s3 s4 s5 s6 hT hPw
  go_enter Tryz.func32, Tryz.ntmps32
  go_wp2_with (first | (go_at_call 58; refine cal.mono ?_; rintro r w3 ⟨⟨v3, rfl⟩, h1, h2⟩))
  go_end0
  rw [HP.out, htx]
  exact ⟨rfl, h1, h2⟩
 ·have htx : txV (srt (.mk 2 n g e t l ks)) = [116, 114, 117, 101] := by rw [srt_low (by decide), txV, if_neg (by decide), if_neg (by decide), if_pos rfl]
  rw [htx] at hP hlen
  have cal := HS.out ⟨#[116, 114, 117, 101]⟩ hlen W2 (Below.refl _ _)
  clear hP hB hBw hs1 hs2 hb1 hb2 hb02 ho hvb hbW2 hk2 hB2 HS ccell hlen ih hm hv hB0 hb k0 k6 hg hu hk6 hml hf hLI hSI s1 s2 s3 s4 s5 s6 hT hPw
  go_enter Tryz.func32, Tryz.ntmps32
  go_wp2_with (first | (go_at_call 58; refine cal.mono ?_; rintro r w3 ⟨⟨v3, rfl⟩, h1, h2⟩))
  go_end0
  rw [HP.out, htx]
  exact ⟨rfl, h1, h2⟩
 ·have htx : txV (srt (.mk 3 n g e t l ks)) = textL ⟨n, g.data.toList, e⟩ := by rw [srt_low (by decide), txV, if_neg (by decide), if_neg (by decide), if_neg (by decide), if_pos rfl]
  rw [htx] at hP hlen
  have cal := text_any n g e W2 (by unfold maxLen; omega) (tab_below hPw hbW2)
  rw [hg, if_pos rfl] at cal
  have cal2 := fun w' hb' => HS.out (bs (textL ⟨n, g.data.toList, e⟩)) (by rw [bs_size]; exact hlen) w' hb'
  rw [bs_list] at cal2
  generalize textL ⟨n, g.data.toList, e⟩ = tx at *
  clear hP hB hBw hs1 hs2 hb1 hb2 hb02 ho hvb hbW2 hk2 hB2 HS ccell hlen ih hm hv hB0 hb k0 k6 hg hu hk6 hml hf hLI hSI s1 s2 s3 s4 s5 s6 hT hPw
  go_enter Tryz.func32, Tryz.ntmps32
  go_wp2_with (first | (go_at_call 59; (with_reducible refine cal.mono ?_); rintro r w3 ⟨rfl, hb3⟩; have c3 := HOC.out w3 hb3) | (go_at_call 58; refine (cal2 _ hb3).mono ?_; rintro r w4 ⟨⟨v3, rfl⟩, h1, h2⟩))
  go_end0
  rw [HP.out, htx]
  exact ⟨rfl, h1, h2⟩
 ·have htx : txV (srt (.mk 4 n g e t l ks)) = qt t := by rw [srt_low (by decide), txV, if_neg (by decide), if_neg (by decide), if_neg (by decide), if_neg (by decide), if_pos rfl]
  rw [htx] at hP hlen
  have cal := quoted_any t hu (by omega) B l0 W2 (hT.below hbW2) hB2 hlen
  have HK := hid_intro hk2
  clear hP hB hBw hs1 hs2 hb1 hb2 hb02 ho hvb hbW2 hk2 hB2 HS ccell hlen ih hm hv hB0 hb k0 k6 hg hu hk6 hml hf hLI hSI s1 s2 s3 s4 s5 s6 hT hPw
  go_enter Tryz.func32, Tryz.ntmps32
  go_wp2_with (first | (go_at_call 60; refine cal.mono ?_; rintro r w3 ⟨rfl, h1, h2⟩))
  go_end0
  rw [HP.out, htx]
  exact ⟨rfl, h1, HK.out.trans h2⟩
 ·have htx := tx_arr n g e t l ks dflt
  rw [htx] at hP hlen
  have cal := row_arr l.length 140737488355328 (by omega) (Nat.le_refl _) 62 #[.pointer (some ⟨w.heap.size, 0, none⟩), .pointer (some ⟨W1.heap.size, 0, none⟩)] (fun i => txV (srt (l.getD i dflt))) B l0 W2 hB2 ⟨enters_write1, ?_⟩ (by simpa [List.append_assoc] using hlen)
  ·have HK := hid_intro hk2
   have hlI : (l.length : Int) ≤ 1073741824 := by omega
   rw [show l0 ++ [91] ++ jn (fun i => txV (srt (l.getD i dflt))) l.length ++ [93] = l0 ++ ([91] ++ jn (fun i => txV (srt (l.getD i dflt))) l.length ++ [93]) by simp [List.append_assoc]] at cal
   generalize [91] ++ jn (fun i => txV (srt (l.getD i dflt))) l.length ++ [93] = tx at *
   clear hP hB hBw hs1 hs2 hb1 hb2 hb02 ho hvb hbW2 hk2 hB2 HS ccell hlen ih hm hv hB0 hb k0 k6 hg hu hk6 hml hf hLI hSI s1 s2 s3 s4 s5 s6 hT hPw
   go_enter Tryz.func32, Tryz.ntmps32
   go_wp2_with (first | (go_at_call 61; refine cal.mono ?_; rintro r w3 ⟨rfl, h1, h2⟩))
   go_end0
   rw [HP.out, htx]
   exact ⟨rfl, h1, HK.out.trans h2⟩
  ·intro w' l' i hk hbb hi hll
   dsimp only at hll ⊢
   have hx : l.getD i dflt = l[i] := by simp [hi]
   rw [hx] at hll ⊢
   have hbel : Below w0.heap.size w0 w' := hbW2.trans (hk.1.mono hB0)
   have o' := ho.kp hk (by decide) (by omega)
   have v' := hvb.kp hk (by decide) (by omega)
   have hLI' := hLI.kept hbel
   have hvi := hLI.choose_spec.choose_spec.2.2.1 i hi
   refine write1_any w' B w.heap.size W1.heap.size l (.slice ao l.length cap) G (o'.cell 0) (v'.cell 5) hLI' i hi (fun w'' => BB B (l' ++ txV (srt l[i])) w'' ∧ Kp B w' w'') (fun w'' ⟨h1, h2⟩ => ⟨h1.below (vb_d (Below.refl _ _)), h2.trans (Kp.of (vb_d (Below.refl _ _)) h1.2)⟩) (fun w'' hb'' => ?_)
   refine (ih l[i] (List.getElem_mem hi) (s3 _ (List.getElem_mem hi)) (d - 1) (hml _ (List.getElem_mem hi)) (G i) B l' w'' hvi hB0 (hbel.trans (hb''.mono hbel.size)) (hbb.below hb'') hll).mono ?_
   rintro r w3 ⟨h1, h2, h3⟩
   exact ⟨h1, h2, (Kp.of hb'' hbb.2).trans h3⟩
 ·obtain ⟨z1, z2, z3⟩ := hk6 rfl
  have htx : ∀ ps, SortedBy (byK ks) ks.length ps → txV (srt (.mk 6 n g e t l ks)) = [123] ++ jn (fun i => qt (dK ks (ps.getD i 0)) ++ ([58] ++ txV (srt (l.getD (ps.getD i 0) dflt)))) ps.length ++ [125] := fun ps hps => tx_obj n g e t l ks dflt z1 z3 hps
  have cal := wobj_any w0 hT n g e t l ks ao ko cap kc' G s1 z1 z2 s6 hLI hSI (fun j => txV (srt (l.getD j dflt))) 140737488355328 B (Nat.le_refl _) hB0 (fun j hj w' l' hb' hbb hll => by
   have hx : l.getD j dflt = l[j] := by simp [hj]
   rw [hx] at hll ⊢
   exact ih l[j] (List.getElem_mem hj) (s3 _ (List.getElem_mem hj)) (d - 1) (hml _ (List.getElem_mem hj)) (G j) B l' w' (hLI.choose_spec.choose_spec.2.2.1 j hj) hB0 hb' hbb hll) W2 hbW2 l0 hB2 (fun ps hps => by
    have := htx ps hps
    rw [this] at hlen
    simpa [List.append_assoc] using hlen)
  have HK := hid_intro hk2
  have HX := hid_intro htx
  clear hP hB hBw hs1 hs2 hb1 hb2 hb02 ho hvb hbW2 hk2 hB2 HS ccell hlen ih hm hv hB0 hb k0 k6 hg hu hk6 hml hf hLI hSI s1 s2 s3 s4 s5 s6 hT hPw htx z1 z2 z3
  go_enter Tryz.func32, Tryz.ntmps32
  go_wp2_with (first | (go_at_call 63; refine cal.mono ?_; rintro r w3 ⟨rfl, ps, hps, h1, h2⟩))
  go_end0
  rw [HP.out, HX.out ps hps]
  exact ⟨rfl, by simpa [List.append_assoc] using h1, HK.out.trans h2⟩
end Go.Proofs.YtjdboekanmfgpaaGreatDoor

namespace Go.Proofs.YtjdboekanmfgpaaGreatDoor
open Go.RowKit Go.Sort
attribute [local go_sem] setCell_drewN alloc_drewN

/-- What value.Text answers. -/
def txR (v : JV) : List UInt8 × Int := if mayB 10000 v = true then (txV (srt v), 0) else ([], 60)
set_option maxRecDepth 100000 in
set_option maxHeartbeats 3200000 in
theorem vtext_any (v : JV) (hs : Sm v) (f : Nat → Value) (w : World) (hT : Lx.Tab w) (hPw : Pow w) (hv : VI w (fun _ => False) v f) (hlen : (txV (srt v)).length ≤ 140737488355328) :
  Calls Tryz.prog 9 #[va f] w fun r w' => r = .returned (.tuple #[.string (bs (txR v).1), .int .i64 (txR v).2]) ∧ Below w.heap.size w w' := by
 obtain ⟨P, hP⟩ : ∃ P : Ending → World → Prop, P = fun r w' => r = .returned (.tuple #[.string (bs (txR v).1), .int .i64 (txR v).2]) ∧ Below w.heap.size w w' := ⟨_, rfl⟩
 rw [← hP]
 have HP := hid_intro hP
 obtain ⟨k, n, g, e, t, l, ks⟩ := v
 obtain ⟨ao, ko, cap, kc', G, hf, _⟩ := hv.li
 obtain ⟨W1, hW1⟩ : ∃ W1, w.alloc (.cells #[.int .i64 k, .bool n, .string g, .int .i64 e, .string t, .slice ao l.length cap, .slice ko ks.length kc'] 28) = W1 := ⟨_, rfl⟩
 have hb1 : Below w.heap.size w W1 := hW1 ▸ vb_a (Below.refl _ _) _
 have hvb : Bx W1 w.heap.size #[.int .i64 k, .bool n, .string g, .int .i64 e, .string t, .slice ao l.length cap, .slice ko ks.length kc'] 28 := hW1 ▸ Bx.new w _ _
 have cal := vcheck_any _ hs f W1 (hT.below hb1) (hv.kept hb1)
 have HW : Hid (∀ w2, Below W1.heap.size W1 w2 → mayB 10000 (.mk k n g e t l ks) = true → Calls Tryz.prog 32 #[.pointer (some ⟨w2.heap.size, 0, none⟩), va f] (w2.alloc (.cells #[.pointer none, .slice none 0 0] 57)) fun r w' => r = .returned (.tuple #[]) ∧ Hid (BB w2.heap.size (txV (srt (.mk k n g e t l ks))) w') ∧ Hid (Below w.heap.size w w')) := hid_intro (fun w2 hb2 hm => by
  have hb12 := vb_t hb1 hb2
  refine (write_any w2 (hT.below hb12) (tab_below hPw hb12) _ hs 10000 hm f w2.heap.size [] _ (hv.kept hb12) (Nat.le_refl _) (vb_a (Below.refl _ _) _) (bb_fresh w2) (by simpa using hlen)).mono ?_
  rintro r w' ⟨h1, h2, h3⟩
  refine ⟨h1, hid_intro (by simpa using h2), hid_intro ?_⟩
  exact (hb12.trans ((vb_a (Below.refl w2.heap.size w2) _).mono hb12.size)).trans (h3.1.mono hb12.size))
 have HG : Hid (∀ B w', w.heap.size ≤ B → Hid (BB B (txV (srt (.mk k n g e t l ks))) w') → Hid (Below w.heap.size w w') → Calls Tryz.prog 33 #[.pointer (some ⟨B, 0, none⟩)] w' fun r w'' => r = .returned (.string (bs (txV (srt (.mk k n g e t l ks))))) ∧ Hid (Below w.heap.size w w'')) := hid_intro (fun B w' hB h1 h2 => (bstr B _ w' h1.out).mono fun r w'' ⟨h3, h4⟩ => ⟨h3, hid_intro (h2.out.trans (h4.mono hB))⟩)
 have HSZ : Hid (∀ w2, Below W1.heap.size W1 w2 → w.heap.size ≤ w2.heap.size) := hid_intro (fun w2 hb2 => (vb_t hb1 hb2).size)
 have HC : Hid (∀ w2, Below W1.heap.size W1 w2 → ∀ o, w2.cell? ⟨w.heap.size, o, none⟩ = (#[.int .i64 k, .bool n, .string g, .int .i64 e, .string t, .slice ao l.length cap, .slice ko ks.length kc'] : Array Value)[o]?) := hid_intro (fun w2 hb2 o => (hvb.bel hb2).cell o)
 have HBB := hid_intro (fun w2 (hb2 : Below W1.heap.size W1 w2) => vb_t hb1 hb2)
 rw [hf] at cal HW ⊢
 have q0 := HC.out W1 (Below.refl _ _) 0
 have q1 := HC.out W1 (Below.refl _ _) 1
 have q2 := HC.out W1 (Below.refl _ _) 2
 have q3 := HC.out W1 (Below.refl _ _) 3
 have q4 := HC.out W1 (Below.refl _ _) 4
 have q5 := HC.out W1 (Below.refl _ _) 5
 have q6 := HC.out W1 (Below.refl _ _) 6
 have HR : Hid (txR (.mk k n g e t l ks) = if mayB 10000 (.mk k n g e t l ks) = true then (txV (srt (.mk k n g e t l ks)), 0) else ([], 60)) := hid_intro rfl
 generalize txR (.mk k n g e t l ks) = R at *
 generalize txV (srt (.mk k n g e t l ks)) = tx at *
 generalize mayB 10000 (.mk k n g e t l ks) = b at *
 clear hb1 hvb hv hf hs hT hPw hlen hP
 cases b with
 | false =>
  simp only [Bool.false_eq_true, if_false] at cal
  go_enter Tryz.func9, Tryz.ntmps9
  go_wp2_with (first | (go_at_call 11; refine cal.mono ?_; rintro r w2 ⟨rfl, hb2⟩))
  rw [HP.out, HR.out]
  exact ⟨rfl, HBB.out _ hb2⟩
 | true =>
  simp only [if_true] at cal
  go_enter Tryz.func9, Tryz.ntmps9
  go_wp2_with (first | (go_at_call 11; refine cal.mono ?_; rintro r w2 ⟨rfl, hb2⟩; have cw := HW.out w2 hb2 (by trivial); have hle := HSZ.out w2 hb2; have p0 := HC.out _ (vb_a hb2 (.cells #[.pointer none, .slice none 0 0] 57)) 0; have p1 := HC.out _ (vb_a hb2 (.cells #[.pointer none, .slice none 0 0] 57)) 1; have p2 := HC.out _ (vb_a hb2 (.cells #[.pointer none, .slice none 0 0] 57)) 2; have p3 := HC.out _ (vb_a hb2 (.cells #[.pointer none, .slice none 0 0] 57)) 3; have p4 := HC.out _ (vb_a hb2 (.cells #[.pointer none, .slice none 0 0] 57)) 4; have p5 := HC.out _ (vb_a hb2 (.cells #[.pointer none, .slice none 0 0] 57)) 5; have p6 := HC.out _ (vb_a hb2 (.cells #[.pointer none, .slice none 0 0] 57)) 6) | (go_at_call 32; refine cw.mono ?_; rintro r w3 ⟨rfl, h1, h2⟩) | (go_at_call 33; refine (HG.out _ _ hle h1 h2).mono ?_; rintro r w4 ⟨rfl, h3⟩))
  have hR : R = (tx, 0) := by rw [HR.out]; first | rfl | simp
  rw [HP.out, hR]
  exact ⟨rfl, h3.out⟩
end Go.Proofs.YtjdboekanmfgpaaGreatDoor

namespace Go.Proofs.YtjdboekanmfgpaaGreatDoor.Lx
open Go.RowKit
set_option linter.unusedSimpArgs false
set_option linter.unusedVariables false

/-- The code point of n bytes. -/
def ptF (g : Nat → Int) (n : Nat) : Int :=
 if n = 1 then g 0 else if n = 2 then (g 0 % 32) * 64 + g 1 % 64 else if n = 3 then (g 0 % 16) * 4096 + (g 1 % 64) * 64 + g 2 % 64
 else (g 0 % 8) * 262144 + (g 1 % 64) * 4096 + (g 2 % 64) * 64 + g 3 % 64

/-- The whole steps, one by one. -/
theorem stepF_true (r : Nat) (g : Nat → Int) (n : Nat) (h : stepF r g = (n, true)) :
  (n = 1 ∧ stN (g 0) = 1) ∨ (n = 2 ∧ stN (g 0) = 2 ∧ 1 < r ∧ secB (g 0) (g 1) = true) ∨ (n = 3 ∧ stN (g 0) = 3 ∧ 2 < r ∧ secB (g 0) (g 1) = true ∧ folB (g 2) = true) ∨
  (n = 4 ∧ stN (g 0) ≠ 0 ∧ stN (g 0) ≠ 1 ∧ stN (g 0) ≠ 2 ∧ stN (g 0) ≠ 3 ∧ 3 < r ∧ secB (g 0) (g 1) = true ∧ folB (g 2) = true ∧ folB (g 3) = true) := by
 unfold stepF at h
 repeat' split at h
 all_goals simp only [Prod.mk.injEq, Bool.false_eq_true, and_false, and_true] at h
 ·exact .inl ⟨h.symm, ‹_›⟩
 ·exact .inr (.inl ⟨h.symm, ‹_›, by omega, by simp_all⟩)
 ·exact .inr (.inr (.inl ⟨h.symm, ‹_›, by omega, by simp_all, by simp_all⟩))
 ·exact .inr (.inr (.inr ⟨h.symm, ‹_›, ‹_›, ‹_›, ‹_›, by omega, by simp_all, by simp_all, by simp_all⟩))

theorem stN_one (c : Int) (e : stN c = 1) : c < 128 := by
 unfold stN at e; repeat' split at e
 all_goals omega
theorem stN_four' (c : Int) (a : stN c ≠ 0) (b : stN c ≠ 1) (d : stN c ≠ 2) (e : stN c ≠ 3) : 240 ≤ c ∧ c ≤ 244 := by
 unfold stN at *; repeat' split at a
 all_goals omega

/-- What the bytes of a whole step are. -/
theorem step_bytes (r : Nat) (g : Nat → Int) (n : Nat) (h : stepF r g = (n, true)) :
  (n = 1 ∧ g 0 < 128) ∨ (n = 2 ∧ 1 < r ∧ 194 ≤ g 0 ∧ g 0 ≤ 223 ∧ 128 ≤ g 1 ∧ g 1 ≤ 191) ∨
  (n = 3 ∧ 2 < r ∧ 224 ≤ g 0 ∧ g 0 ≤ 239 ∧ 128 ≤ g 1 ∧ g 1 ≤ 191 ∧ (g 0 = 224 → 160 ≤ g 1) ∧ (g 0 = 237 → g 1 ≤ 159) ∧ 128 ≤ g 2 ∧ g 2 ≤ 191) ∨
  (n = 4 ∧ 3 < r ∧ 240 ≤ g 0 ∧ g 0 ≤ 244 ∧ 128 ≤ g 1 ∧ g 1 ≤ 191 ∧ (g 0 = 240 → 144 ≤ g 1) ∧ (g 0 = 244 → g 1 ≤ 143) ∧ 128 ≤ g 2 ∧ g 2 ≤ 191 ∧ 128 ≤ g 3 ∧ g 3 ≤ 191) := by
 rcases stepF_true r g n h with ⟨e, a⟩ | ⟨e, a, l, s⟩ | ⟨e, a, l, s, t⟩ | ⟨e, a0, a1, a2, a3, l, s, t, u⟩
 ·exact .inl ⟨e, stN_one _ a⟩
 ·have b := stN_two _ a
  have f := secB_fol _ _ s
  rw [folB_iff] at f
  exact .inr (.inl ⟨e, l, b.1, b.2, f.1, f.2⟩)
 ·have b := stN_three _ a
  have f := secB_fol _ _ s
  rw [folB_iff] at f t
  rw [secB_iff] at s
  refine .inr (.inr (.inl ⟨e, l, b.1, b.2, f.1, f.2, fun k => ?_, fun k => ?_, t.1, t.2⟩))
  ·rw [if_pos k] at s; exact s.1
  ·rw [if_pos (c := g 0 = 237) k] at s; exact s.2
 ·have b := stN_four' _ a0 a1 a2 a3
  have f := secB_fol _ _ s
  rw [folB_iff] at f t u
  rw [secB_iff] at s
  refine .inr (.inr (.inr ⟨e, l, b.1, b.2, f.1, f.2, fun k => ?_, fun k => ?_, t.1, t.2, u.1, u.2⟩))
  ·rw [if_neg (by omega), if_pos (c := g 0 = 240) k] at s; exact s.1
  ·rw [if_neg (c := g 0 = 237) (by omega), if_pos (c := g 0 = 244) k] at s; exact s.2

theorem decode_step (s : ByteArray) (p r n : Nat) (g : Nat → Int) (hs : ∀ i, i < r → ((s.get! (p + i)).toNat : Int) = g i) (hl : s.size = p + r) (h0 : 0 < r) (h : stepF r g = (n, true)) :
  Utf8.decode s p = ((ptF g n).toNat, n) := by
 have e0 := hs 0 h0
 have e0s : ((s.get! p).toNat : Int) = g 0 := e0
 rcases step_bytes r g n h with ⟨rfl, a⟩ | ⟨rfl, l, a⟩ | ⟨rfl, l, a⟩ | ⟨rfl, l, a⟩
 ·have c : (s.get! (p + 0)).toNat < 128 := by omega
  simp only [Utf8.decode, c, if_true, ptF]
  rw [← e0]; simp
 ·have e1 := hs 1 (by omega)
  unfold Utf8.decode
  simp only []
  rw [if_neg (by omega), if_pos (by simp; omega), if_pos (by omega)]
  simp only [ptF]
  rw [Prod.mk.injEq]; refine ⟨?_, rfl⟩
  simp; omega
 ·have e1 := hs 1 (by omega)
  have e2 := hs 2 (by omega)
  unfold Utf8.decode
  simp only []
  rw [if_neg (by omega), if_neg (by simp; omega), if_pos (by simp; omega), if_pos (by simp [Utf8.valid]; omega)]
  simp only [ptF]
  rw [Prod.mk.injEq]; refine ⟨?_, rfl⟩
  simp; omega
 ·have e1 := hs 1 (by omega)
  have e2 := hs 2 (by omega)
  have e3 := hs 3 (by omega)
  unfold Utf8.decode
  simp only []
  rw [if_neg (by omega), if_neg (by simp; omega), if_neg (by simp; omega), if_pos (by simp; omega), if_pos (by simp [Utf8.valid]; omega)]
  simp only [ptF]
  rw [Prod.mk.injEq]; refine ⟨?_, rfl⟩
  simp; omega
end Go.Proofs.YtjdboekanmfgpaaGreatDoor.Lx

namespace Go.Proofs.YtjdboekanmfgpaaGreatDoor.Lx
open Go.RowKit

def heads8 (c : UInt8) : Bool := !folB (c.toNat : Int)
/-- How many bytes do not follow others. -/
def countS (l : List UInt8) : Int := (l.filter heads8).length
theorem countS_le (l : List UInt8) : 0 ≤ countS l ∧ countS l ≤ l.length := by
 unfold countS; exact ⟨by omega, by have := List.length_filter_le heads8 l; omega⟩
theorem take_snoc (s : ByteArray) (k : Nat) (h : k < s.size) : s.data.toList.take (k + 1) = s.data.toList.take k ++ [s[k]] := by
 rw [List.take_succ_eq_append_getElem (by simpa using h)]; rfl
theorem countS_fol (l : List UInt8) (c : UInt8) (h : folB (c.toNat : Int) = true) : countS (l ++ [c]) = countS l := by
 simp [countS, heads8, h]
theorem countS_new (l : List UInt8) (c : UInt8) (h : folB (c.toNat : Int) = false) : countS (l ++ [c]) = countS l + 1 := by
 simp [countS, heads8, h]

set_option maxHeartbeats 400000 in
theorem count_any (s : ByteArray) (w : World) (hs : s.size ≤ maxLen) :
  Calls Tryz.prog 51 #[.string s] w fun e w' => e = .returned (.int .i64 (countS s.data.toList)) ∧ w' = w := by
 unfold maxLen at hs
 go_enter Tryz.func51, Tryz.ntmps51
 go_wp2
 go_loop [3, 7] (fun n i => ∃ k : Nat, k ≤ s.size ∧ i = .int .i64 k ∧ n = .int .i64 (countS (s.data.toList.take k))) (fun _ i => s.size - (intOf i).toNat)
 case atStart => exact ⟨0, Nat.zero_le _, rfl, rfl⟩
 case round =>
  obtain ⟨k, hk, rfl, rfl⟩ := hrel
  have hd := countS_le (s.data.toList.take k)
  have hl : (s.data.toList.take k).length ≤ k := List.length_take_le _ _
  by_cases hlt : k < s.size
  ·have hfol : ∀ w, Calls Tryz.prog 83 #[.int .u8 ((s[k]'hlt).toNat : Int)] w fun e w' => e = .returned (.bool (folB ((s[k]'hlt).toNat : Int))) ∧ w = w' := fun w => (follows_any _ w).mono fun e w' h => ⟨h.1, h.2.symm⟩
   cases hf : folB ((s[k]'hlt).toNat : Int)
   ·have HS : Hid (countS (s.data.toList.take (k + 1)) = countS (s.data.toList.take k) + 1) := by
     show _ = _
     rw [take_snoc s k hlt]; exact countS_new _ _ hf
    rw [hf] at hfol
    clear hf
    go_wp2_with (go_at_call 83; refine (hfol _).mono ?_; rintro e w' ⟨rfl, rfl⟩)
    go_round
    case rel => exact ⟨k + 1, by omega, by go_num, by rw [HS.out]⟩
    case measure => simp [intOf]; omega
   ·have HS : Hid (countS (s.data.toList.take (k + 1)) = countS (s.data.toList.take k)) := by
     show _ = _
     rw [take_snoc s k hlt]; exact countS_fol _ _ hf
    rw [hf] at hfol
    clear hf
    go_wp2_with (go_at_call 83; refine (hfol _).mono ?_; rintro e w' ⟨rfl, rfl⟩)
    go_round
    case rel => exact ⟨k + 1, by omega, by go_num, by rw [HS.out]⟩
    case measure => simp [intOf]; omega
  ·go_wp2
   go_ret
   exact ⟨ret_int (by rw [List.take_of_length_le (by simp; omega)]), rfl⟩
end Go.Proofs.YtjdboekanmfgpaaGreatDoor.Lx
