/-
  What pointer.keyPlace and pointer.placeOf answer: the place to which a part leads. Conditions: lists of at most 2^30.
-/
import Derived.Test.YtkbkedknoahhgaaDoorJoined24
namespace Go.Proofs.YtkbkedknoahhgaaDoor
open Go.RowKit
attribute [local go_sem] setCell_drewN alloc_drewN

def kpV : Option Nat → Value
  | some i => .tuple #[.int .i64 (i : Int), .bool true]
  | none => .tuple #[.int .i64 0, .bool false]
theorem kix_ge {key : ByteArray} : ∀ (l : List ByteArray) (i j : Nat), kix key l i = some j → i ≤ j ∧ j < i + l.length
  | [], _, _, h => by cases h
  | y :: t, i, j, h => by
    rw [kix] at h
    split at h
    · injection h with h; subst h; simp
    · have := kix_ge t (i + 1) j h
      simp only [List.length_cons]; omega

set_option maxRecDepth 100000 in
set_option maxHeartbeats 1600000 in
theorem keyPlace_any (n : Bool) (g : ByteArray) (e : Int) (t : ByteArray) (l : List JV) (ks : List ByteArray) (ao ko : Option Addr) (cap kc : Nat) (key : ByteArray) (w : World) (hkl : ks.length ≤ 1073741824) (hkc : ks.length ≤ kc) (hkm : kc ≤ maxLen) (hk0 : ko = none → ks = [])
    (hk : ks = [] ∨ ∃ b off, ko = some ⟨b, off, none⟩ ∧ ∀ i (h : i < ks.length), w.cell? ⟨b, off + i, none⟩ = some (.string ks[i])) :
    Calls Tryd.prog 36 #[.agg #[.int .i64 6, .bool n, .string g, .int .i64 e, .string t, .slice ao l.length cap, .slice ko ks.length kc], .string key] w fun r w' => r = .returned (kpV (kix key (ks.take (elN (.mk 6 n g e t l ks))) 0)) ∧ Below w.heap.size w w' := by
  have hel := elements_any 6 n g e t l ks ao ko cap kc
  have hml : elN (.mk 6 n g e t l ks) ≤ ks.length := by simp [elN]; omega
  have hix : ∀ w', Below w.heap.size w w' → Calls Tryd.prog 56 #[.slice ko (elN (.mk 6 n g e t l ks)) kc, .string key] w' fun r w2 => r = .returned (.int .i64 (kixI (kix key (ks.take (elN (.mk 6 n g e t l ks))) 0))) ∧ w2 = w' := fun w' hb => by
    have hlen : (ks.take (elN (.mk 6 n g e t l ks))).length = elN (.mk 6 n g e t l ks) := by rw [List.length_take]; omega
    have := index_any (ks.take (elN (.mk 6 n g e t l ks))) key ko kc w' (by omega) (by
      rcases hk with rfl | ⟨b, off, h1, h2⟩
      · left; simp
      · right
        refine ⟨b, off, h1, fun i hi => ?_⟩
        rw [hlen] at hi
        rw [hb.cell (p := ⟨b, off + i, none⟩) (World.block_lt_of_cell? w _ (h2 i (by omega))), h2 i (by omega), List.getElem_take])
    rw [hlen] at this
    exact this
  have hge := kix_ge (key := key) (ks.take (elN (.mk 6 n g e t l ks))) 0
  generalize kix key (ks.take (elN (.mk 6 n g e t l ks))) 0 = K at *
  generalize elN (.mk 6 n g e t l ks) = m at *
  have hmI : (m : Int) ≤ (kc : Int) := by omega
  have hmI0 : (0 : Int) ≤ (m : Int) := by omega
  have hKC := fun (w' : World) => keepC (w' := w') (W := w) (cs := #[.int .i64 6, .bool n, .string g, .int .i64 e, .string t, .slice ao l.length cap, .slice ko ks.length kc]) (t := 28)
  have hbW : Below w.heap.size w (w.alloc (.cells #[.int .i64 6, .bool n, .string g, .int .i64 e, .string t, .slice ao l.length cap, .slice ko ks.length kc] 28)) := bl_a (Below.refl _ _) _
  generalize hW : w.alloc (.cells #[.int .i64 6, .bool n, .string g, .int .i64 e, .string t, .slice ao l.length cap, .slice ko ks.length kc] 28) = W at *
  have HS : Hid (∀ w', Below W.heap.size W w' → ∀ o, w'.cell? ⟨w.heap.size, o, none⟩ = #[Value.int .i64 6, .bool n, .string g, .int .i64 e, .string t, .slice ao l.length cap, .slice ko ks.length kc][o]?) := hKC
  have HI : Hid (∀ w', Below W.heap.size W w' → Calls Tryd.prog 56 #[.slice ko m kc, .string key] w' fun r w2 => r = .returned (.int .i64 (kixI K)) ∧ w2 = w') := fun w' hb => hix w' (bl_t hbW hb)
  have HL : Hid (∀ w', Calls Tryd.prog 40 #[.agg #[.int .i64 6, .bool n, .string g, .int .i64 e, .string t, .slice ao l.length cap, .slice ko ks.length kc]] w' fun r w2 => r = .returned (.int .i64 (m : Int)) ∧ Below w'.heap.size w' w2) := hel
  have HB : Hid (∀ w', Below W.heap.size W w' → Below w.heap.size w w') := fun w' hb => bl_t hbW hb
  have HM : Hid (m ≤ ks.length) := hml
  have HKC : Hid (kc ≤ maxLen ∧ ks.length ≤ kc ∧ (ko = none → ks = [])) := ⟨hkm, hkc, hk0⟩
  clear hKC hix hel hbW hk hge hkl hml hkm hkc hk0
  cases ko with
  | none =>
    obtain rfl : m = 0 := by
      have := HKC.out.2.2 rfl
      have h2 := HM.out
      rw [this] at h2
      exact Nat.le_zero.1 h2
    cases K with
    | none =>
      simp only [kixI] at HI
      go_enter Tryd.func36, Tryd.ntmps36
      go_wp2_with fail
      go_region_held3 (fun w' => ∀ o, w'.cell? ⟨w.heap.size, o, none⟩ = #[Value.int .i64 6, .bool n, .string g, .int .i64 e, .string t, .slice ao l.length cap, .slice none ks.length kc][o]?) (first | (refine HS.out _ ?_; with_reducible repeat (first | exact Below.refl _ _ | refine bl_t ?_ hb3 | refine bl_d ?_ | refine bl_a ?_ _)) | fail) (first | (go_at_call 40; refine (HL.out _).mono ?_; rintro r w3 ⟨rfl, hb3⟩) | (go_at_call 56; refine (HI.out _ ?_).mono ?_; (with_reducible repeat (first | exact Below.refl _ _ | refine bl_t ?_ hb3 | refine bl_d ?_)); rintro r w4 ⟨rfl, rfl⟩) | fail)
      all_goals
        have hfin := HB.out w4 (by with_reducible repeat (first | exact Below.refl _ _ | refine bl_t ?_ hb3 | refine bl_d ?_))
        clear HS HL HI HB
        go_wp2
        go_ret2
        exact ⟨rfl, hfin⟩
    | some i =>
      simp only [kixI] at HI
      have hi0 : ¬ (i : Int) < 0 := by omega
      go_enter Tryd.func36, Tryd.ntmps36
      go_wp2_with fail
      go_region_held3 (fun w' => ∀ o, w'.cell? ⟨w.heap.size, o, none⟩ = #[Value.int .i64 6, .bool n, .string g, .int .i64 e, .string t, .slice ao l.length cap, .slice none ks.length kc][o]?) (first | (refine HS.out _ ?_; with_reducible repeat (first | exact Below.refl _ _ | refine bl_t ?_ hb3 | refine bl_d ?_ | refine bl_a ?_ _)) | fail) (first | (go_at_call 40; refine (HL.out _).mono ?_; rintro r w3 ⟨rfl, hb3⟩) | (go_at_call 56; refine (HI.out _ ?_).mono ?_; (with_reducible repeat (first | exact Below.refl _ _ | refine bl_t ?_ hb3 | refine bl_d ?_)); rintro r w4 ⟨rfl, rfl⟩) | fail)
      all_goals
        have hfin := HB.out w4 (by with_reducible repeat (first | exact Below.refl _ _ | refine bl_t ?_ hb3 | refine bl_d ?_))
        clear HS HL HI HB
        go_wp2
        go_ret2
        exact ⟨rfl, hfin⟩
  | some a =>
    cases K with
    | none =>
      simp only [kixI] at HI
      go_enter Tryd.func36, Tryd.ntmps36
      go_wp2_with fail
      go_region_held3 (fun w' => ∀ o, w'.cell? ⟨w.heap.size, o, none⟩ = #[Value.int .i64 6, .bool n, .string g, .int .i64 e, .string t, .slice ao l.length cap, .slice (some a) ks.length kc][o]?) (first | (refine HS.out _ ?_; with_reducible repeat (first | exact Below.refl _ _ | refine bl_t ?_ hb3 | refine bl_d ?_ | refine bl_a ?_ _)) | fail) (first | (go_at_call 40; refine (HL.out _).mono ?_; rintro r w3 ⟨rfl, hb3⟩) | (go_at_call 56; refine (HI.out _ ?_).mono ?_; (with_reducible repeat (first | exact Below.refl _ _ | refine bl_t ?_ hb3 | refine bl_d ?_)); rintro r w4 ⟨rfl, rfl⟩) | fail)
      all_goals
        have hfin := HB.out w4 (by with_reducible repeat (first | exact Below.refl _ _ | refine bl_t ?_ hb3 | refine bl_d ?_))
        clear HS HL HI HB
        go_wp2
        go_ret2
        exact ⟨rfl, hfin⟩
    | some i =>
      simp only [kixI] at HI
      have hi0 : ¬ (i : Int) < 0 := by omega
      go_enter Tryd.func36, Tryd.ntmps36
      go_wp2_with fail
      go_region_held3 (fun w' => ∀ o, w'.cell? ⟨w.heap.size, o, none⟩ = #[Value.int .i64 6, .bool n, .string g, .int .i64 e, .string t, .slice ao l.length cap, .slice (some a) ks.length kc][o]?) (first | (refine HS.out _ ?_; with_reducible repeat (first | exact Below.refl _ _ | refine bl_t ?_ hb3 | refine bl_d ?_ | refine bl_a ?_ _)) | fail) (first | (go_at_call 40; refine (HL.out _).mono ?_; rintro r w3 ⟨rfl, hb3⟩) | (go_at_call 56; refine (HI.out _ ?_).mono ?_; (with_reducible repeat (first | exact Below.refl _ _ | refine bl_t ?_ hb3 | refine bl_d ?_)); rintro r w4 ⟨rfl, rfl⟩) | fail)
      all_goals
        have hfin := HB.out w4 (by with_reducible repeat (first | exact Below.refl _ _ | refine bl_t ?_ hb3 | refine bl_d ?_))
        clear HS HL HI HB
        go_wp2
        go_ret2
        exact ⟨rfl, hfin⟩
end Go.Proofs.YtkbkedknoahhgaaDoor
