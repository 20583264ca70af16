/-
  A number that is read is written so; ref6.Get. Conditions: lists of at most 2^30.
-/
import Derived.Test.YtkbkedknoahhgaaDoorJoined39
import Derived.Test.YtkbkedknoahhgaaDoorJoined40
namespace Go.Proofs.YtkbkedknoahhgaaDoor
open Go.RowKit
attribute [local go_sem] setCell_drewN alloc_drewN

theorem nbF_inv (m : Int) : ∀ (len : Nat) (l : List UInt8), l.length = len → l ≠ [] → (l.head? = some 48 → l = [48]) → ∀ n, nbF m l 0 = some n → ∃ u : Nat, n = (u : Int) ∧ l = Lib.decDigits u := by
  intro len
  induction len using Nat.strongRecOn with
  | _ len ih =>
    intro l hl hne hh n hn
    rcases List.eq_nil_or_concat l with e | ⟨a, c, e⟩
    · exact absurd e hne
    rw [List.concat_eq_append] at e
    subst e
    rw [nbF_append] at hn
    cases ha : nbF m a 0 with
    | none => rw [ha] at hn; cases hn
    | some x =>
      rw [ha] at hn
      have hn : nbF m [c] x = some n := hn
      rw [nbF] at hn
      split at hn
      · rename_i hw
        have hw := (wi_iff _ _ _).1 hw
        split at hn
        · cases hn
        · rw [nbF] at hn
          injection hn with hn
          obtain ⟨d, hd⟩ : ∃ d : Nat, (c.toNat : Int) = 48 + (d : Int) := ⟨c.toNat - 48, by omega⟩
          have hd10 : d < 10 := by omega
          have hc : c = UInt8.ofNat (48 + d) := by
            have h1 := dig_nat hd10
            have : c.toNat = (UInt8.ofNat (48 + d)).toNat := by omega
            exact UInt8.toNat_inj.1 this
          by_cases h0 : a = []
          · subst h0
            rw [nbF] at ha
            injection ha with ha
            exact ⟨d, by omega, by rw [dec_lt hd10, ← hc]; rfl⟩
          · have hah : a.head? ≠ some 48 := fun h => by
              have h2 := hh (by cases a with | nil => exact absurd rfl h0 | cons y t => simpa using h)
              cases a with
              | nil => exact h0 rfl
              | cons y t => simp at h2
            obtain ⟨u, hu, hau⟩ := ih a.length (by rw [← hl]; simp) a rfl h0 (fun h => absurd h hah) x ha
            have hu0 : u ≠ 0 := fun h => by
              subst h
              rw [dec_lt (by omega)] at hau
              rw [hau] at hah
              exact hah rfl
            refine ⟨10 * u + d, by omega, ?_⟩
            rw [dec_ge (by omega), show (10 * u + d) / 10 = u by omega, show (10 * u + d) % 10 = d by omega, ← hau, ← hc]
      · cases hn
theorem nbL_conv {p : List UInt8} {m : Nat} {n : Int} (h : nbL p (m : Int) = some n) : ∃ u : Nat, u < m ∧ n = (u : Int) ∧ p = Lib.itoa (u : Int) := by
  have hb : nbF (m : Int) p 0 = some n ∧ p ≠ [] ∧ (p.head? = some 48 → p = [48]) := by
    unfold nbL at h
    split at h
    · cases h
    · rename_i hno
      refine ⟨h, fun e => hno (Or.inl e), fun e => ?_⟩
      refine Classical.byContradiction fun h2 => hno (Or.inr ⟨e, h2⟩)
  obtain ⟨u, h1, h2⟩ := nbF_inv (m : Int) p.length p rfl hb.2.1 hb.2.2 n hb.1
  have h3 := nbF_bd p 0 n (by omega) (.inr hb.2.1) hb.1
  exact ⟨u, by omega, h1, by rw [Lib.itoa_nonneg]; exact h2⟩
theorem kix_drop (key : ByteArray) : ∀ (ys : List ByteArray) (o i : Nat), i < ys.length → kix key (ys.drop i) (o + i) = (if key = ys.getD i ⟨#[]⟩ then some (o + i) else kix key (ys.drop (i + 1)) (o + (i + 1)))
  | ys, o, i, h => by
    rw [List.drop_eq_getElem_cons h, kix, List.getD_eq_getElem?_getD, List.getElem?_eq_getElem h]
    rfl
set_option maxRecDepth 100000 in
set_option maxHeartbeats 1600000 in
theorem get_any (n : Bool) (g : ByteArray) (e : Int) (t : ByteArray) (l : List JV) (ks : List ByteArray) (ao ko : Option Addr) (cap kc : Nat) (G : Nat → Nat → Value) (key : ByteArray) (w : World) (hll : l.length ≤ 1073741824) (hlen : ks.length = l.length)
    (hr : ∀ i (h : i < l.length), VI w (fun _ => False) l[i] (G i))
    (hl : l = [] ∨ ∃ b off, ao = some ⟨b, off, none⟩ ∧ b < w.heap.size ∧ ∀ i, i < l.length → ∀ j, j < 7 → w.cell? ⟨b, off + i * 7 + j, none⟩ = some (G i j))
    (hk : ks = [] ∨ ∃ b off, ko = some ⟨b, off, none⟩ ∧ b < w.heap.size ∧ ∀ i (h : i < ks.length), w.cell? ⟨b, off + i, none⟩ = some (.string ks[i])) :
    Calls Tryd.prog 21 #[.agg #[.int .i64 6, .bool n, .string g, .int .i64 e, .string t, .slice ao l.length cap, .slice ko ks.length kc], .string key] w fun r w' => ∃ (y : Nat → Value) (b : Bool), r = .returned (.tuple #[.agg #[y 0, y 1, y 2, y 3, y 4, y 5, y 6], .bool b]) ∧ ((∃ i, kix key ks 0 = some i ∧ i < l.length ∧ b = true ∧ ∀ j, j < 7 → y j = G i j) ∨ (kix key ks 0 = none ∧ b = false ∧ y = zf)) ∧ Below w.heap.size w w' := by
  obtain ⟨P, hP⟩ : ∃ P : Ending → World → Prop, P = fun r w' => ∃ (y : Nat → Value) (b : Bool), r = .returned (.tuple #[.agg #[y 0, y 1, y 2, y 3, y 4, y 5, y 6], .bool b]) ∧ ((∃ i, kix key ks 0 = some i ∧ i < l.length ∧ b = true ∧ ∀ j, j < 7 → y j = G i j) ∨ (kix key ks 0 = none ∧ b = false ∧ y = zf)) ∧ Below w.heap.size w w' := ⟨_, rfl⟩
  rw [← hP]
  have HP := hid_intro hP
  have hA := C7.new w (.int .i64 6) (.bool n) (.string g) (.int .i64 e) (.string t) (.slice ao l.length cap) (.slice ko ks.length kc) 28
  obtain ⟨W, hW⟩ : ∃ W, w.alloc (.cells #[.int .i64 6, .bool n, .string g, .int .i64 e, .string t, .slice ao l.length cap, .slice ko ks.length kc] 28) = W := ⟨_, rfl⟩
  rw [hW] at hA
  have hbW : Below w.heap.size w W := hW ▸ bl_a (Below.refl _ _) _
  have hB := C7.new W (.int .i64 0) (.bool false) (.string ⟨#[]⟩) (.int .i64 0) (.string ⟨#[]⟩) (.slice none 0 0) (.slice none 0 0) 28
  obtain ⟨V, hV⟩ : ∃ V, W.alloc (.cells #[.int .i64 0, .bool false, .string ⟨#[]⟩, .int .i64 0, .string ⟨#[]⟩, .slice none 0 0, .slice none 0 0] 28) = V := ⟨_, rfl⟩
  rw [hV] at hB
  have hbV : Below W.heap.size W V := hV ▸ bl_a (Below.refl _ _) _
  have hA2 := hA.bel hbV
  have HBV : Hid (Below w.heap.size w V) := hid_intro (bl_t hbW hbV)
  have HL : Hid (∀ i, i < l.length → ∃ b off, ao = some ⟨b, off, none⟩ ∧ ∀ j, j < 7 → V.cell? ⟨b, off + i * 7 + j, none⟩ = some (G i j)) := hid_intro (fun i hi => by
    rcases hl with h | ⟨b, off, h1, h2, h3⟩
    · rw [h] at hi; exact absurd hi (by simp)
    · exact ⟨b, off, h1, fun j hj => by rw [(bl_t hbW hbV).cell (p := ⟨b, off + i * 7 + j, none⟩) h2]; exact h3 i hi j hj⟩)
  have HK : Hid (∀ i, i < ks.length → ∃ b off, ko = some ⟨b, off, none⟩ ∧ V.cell? ⟨b, off + i, none⟩ = some (.string (ks.getD i ⟨#[]⟩))) := hid_intro (fun i hi => by
    rcases hk with h | ⟨b, off, h1, h2, h3⟩
    · rw [h] at hi; exact absurd hi (by simp)
    · exact ⟨b, off, h1, by rw [(bl_t hbW hbV).cell (p := ⟨b, off + i, none⟩) h2, h3 i hi, List.getD_eq_getElem?_getD, List.getElem?_eq_getElem hi]; rfl⟩)
  have HR := hid_intro (fun i (h : i < l.length) => (hr i h).shape)
  have HLE := hid_intro hlen
  have hkI : (ks.length : Int) ≤ 1073741824 := by omega
  have HWS : Hid (w.heap.size ≤ W.heap.size) := hid_intro hbW.size
  clear hP hl hk hr hlen hll hbW hbV hA
  obtain ⟨a0, a1, a2, a3, a4, a5, a6, _, _, _, _, _, _, _⟩ := hA2
  obtain ⟨z0, z1, z2, z3, z4, z5, z6, q0, q1, q2, q3, q4, q5, q6⟩ := hB
  go_enter Tryd.func21, Tryd.ntmps21
  go_wp2_with fail
  clear hW hV
  go_loopg [6] ks.length (fun m s6 wr => ∃ i : Nat, m = ks.length - i ∧ s6 = .int .i64 (i : Int) ∧ wr = V ∧ Hid (i ≤ ks.length) ∧ Hid (kix key ks 0 = kix key (ks.drop i) (0 + i)))
  case atStart => exact ⟨0, rfl, rfl, rfl, Nat.zero_le _, by show kix key ks 0 = kix key (ks.drop 0) (0 + 0); rw [List.drop_zero]⟩
  case round =>
    obtain ⟨i, rfl, rfl, rfl, HIL, HX⟩ := hrel
    by_cases hlt : (i : Int) < (ks.length : Int)
    · have HLT : Hid (i < ks.length) := hid_intro (by omega)
      have HLL : Hid (i < l.length) := hid_intro (by rw [← HLE.out]; exact HLT.out)
      obtain ⟨kb, kof, rfl, hkc⟩ := HK.out i HLT.out
      have HKD := hid_intro (kix_drop key ks 0 i HLT.out)
      obtain ⟨ky, hky⟩ : ∃ ky, ks.getD i ⟨#[]⟩ = ky := ⟨_, rfl⟩
      rw [hky] at hkc HKD
      have heq := eq_bytes ky key
      clear hky
      by_cases he : ky = key
      · rw [decide_eq_true he] at heq
        have HE : Hid (kix key ks 0 = some i) := hid_intro (by rw [HX.out, HKD.out, if_pos he.symm, Nat.zero_add])
        obtain ⟨b, off, rfl, hce⟩ := HL.out i HLL.out
        obtain ⟨k', n', g', e', t', la, lm, lc, ka, km, kc', f0, f1, f2, f3, f4, f5, f6⟩ := HR.out i HLL.out
        have e0 : wr.cell? ⟨b, off + i * 7, none⟩ = some (.int .i64 k') := by rw [← f0]; exact hce 0 (by omega)
        have e1 : wr.cell? ⟨b, off + i * 7 + 1, none⟩ = some (.bool n') := by rw [← f1]; exact hce 1 (by omega)
        have e2 : wr.cell? ⟨b, off + i * 7 + 2, none⟩ = some (.string g') := by rw [← f2]; exact hce 2 (by omega)
        have e3 : wr.cell? ⟨b, off + i * 7 + 3, none⟩ = some (.int .i64 e') := by rw [← f3]; exact hce 3 (by omega)
        have e4 : wr.cell? ⟨b, off + i * 7 + 4, none⟩ = some (.string t') := by rw [← f4]; exact hce 4 (by omega)
        have e5 : wr.cell? ⟨b, off + i * 7 + 5, none⟩ = some (.slice la lm lc) := by rw [← f5]; exact hce 5 (by omega)
        have e6 : wr.cell? ⟨b, off + i * 7 + 6, none⟩ = some (.slice ka km kc') := by rw [← f6]; exact hce 6 (by omega)
        have hil : (i : Int) < (l.length : Int) := by have := HLL.out; omega
        have HFF : Hid (∀ j, j < 7 → f7 (.int .i64 k') (.bool n') (.string g') (.int .i64 e') (.string t') (.slice la lm lc) (.slice ka km kc') j = G i j) := hid_intro (fun j hj => by
          have : j = 0 ∨ j = 1 ∨ j = 2 ∨ j = 3 ∨ j = 4 ∨ j = 5 ∨ j = 6 := by omega
          rcases this with rfl | rfl | rfl | rfl | rfl | rfl | rfl
          · exact f0.symm
          · exact f1.symm
          · exact f2.symm
          · exact f3.symm
          · exact f4.symm
          · exact f5.symm
          · exact f6.symm)
        clear hce f0 f1 f2 f3 f4 f5 f6 he
        go_wp2
        refine bodyPost_ret (v := .tuple #[.agg #[.int .i64 k', .bool n', .string g', .int .i64 e', .string t', .slice la lm lc, .slice ka km kc'], .bool true]) (by simp [results, Tryd.results21, go_sem, *]) rfl ?_
        rw [HP.out]
        exact ⟨f7 (.int .i64 k') (.bool n') (.string g') (.int .i64 e') (.string t') (.slice la lm lc) (.slice ka km kc'), true, rfl, Or.inl ⟨i, HE.out, HLL.out, rfl, HFF.out⟩, by (with_reducible repeat (first | exact HBV.out | refine bl_s ?_ HWS.out _))⟩
      · rw [decide_eq_false he] at heq
        have HE : Hid (kix key ks 0 = kix key (ks.drop (i + 1)) (0 + (i + 1))) := hid_intro (by rw [HX.out, HKD.out, if_neg (fun h => he h.symm)])
        clear he
        go_wp2_with fail
        go_roundg (ks.length - (i + 1))
        case measure => have := HLT.out; omega
        case rel => exact ⟨i + 1, rfl, by simp, rfl, HLT.out, HE.out⟩
    · have HE : Hid (kix key ks 0 = none) := hid_intro (by
        rw [HX.out, List.drop_eq_nil_of_le (by have := HIL.out; omega)]; rfl)
      go_wp2
      refine bodyPost_ret (v := .tuple #[.agg #[.int .i64 0, .bool false, .string ⟨#[]⟩, .int .i64 0, .string ⟨#[]⟩, .slice none 0 0, .slice none 0 0], .bool false]) (by simp [results, Tryd.results21, go_sem, *]) rfl ?_
      rw [HP.out]
      exact ⟨zf, false, rfl, Or.inr ⟨HE.out, rfl, rfl⟩, by (with_reducible repeat (first | exact HBV.out | refine bl_s ?_ HWS.out _))⟩
end Go.Proofs.YtkbkedknoahhgaaDoor
