/-
  What lex.word and lex.number answer. Conditions: the bytes lie in memory, at most 2^48 of them.
-/
import Derived.Test.YtngpkgmgjbahgaaDoorV5
namespace Go.Proofs.YtngpkgmgjbahgaaDoor
open Go.RowKit
attribute [local go_sem] setCell_drewN alloc_drewN

theorem bcell {W w1 : World} (hb : Below W.heap.size W w1) : (∀ b o, b < W.heap.size → w1.cell? ⟨b, o, none⟩ = W.cell? ⟨b, o, none⟩) ∧ (∀ b o, b < W.heap.size → w1.frozen? ⟨b, o, none⟩ = W.frozen? ⟨b, o, none⟩) :=
  ⟨fun b o h => hb.cell (p := ⟨b, o, none⟩) h, fun b o h => hb.frozen (p := ⟨b, o, none⟩) h⟩

/-- The cell of a token's result behind a call. -/
theorem keepT {w w' : World} (h : Below (w.alloc (.cells #[.int .i64 0, .string ⟨#[]⟩, .int .i64 0, .int .i64 0] 25)).heap.size (w.alloc (.cells #[.int .i64 0, .string ⟨#[]⟩, .int .i64 0, .int .i64 0] 25)) w') :
    (∀ o, w'.cell? ⟨w.heap.size, o, none⟩ = #[Value.int .i64 0, .string ⟨#[]⟩, .int .i64 0, .int .i64 0][o]?) ∧ (∀ o, w'.frozen? ⟨w.heap.size, o, none⟩ = false) ∧ w.heap.size < w'.heap.size := by
  have z := h.size
  simp only [World.size_alloc] at z
  refine ⟨fun o => ?_, fun o => ?_, by omega⟩
  · rw [h.cell (p := ⟨w.heap.size, o, none⟩) (by simp only [World.size_alloc]; omega)]
    simp [go_sem]
  · rw [h.frozen (p := ⟨w.heap.size, o, none⟩) (by simp only [World.size_alloc]; omega)]
    simp [go_sem]

set_option maxRecDepth 100000 in
set_option maxHeartbeats 800000 in
theorem word_any (l : List UInt8) (i : Nat) (v : Value) (s : ByteArray) (w : World) (hB : Byt w v l) (hi : i < l.length) (hm : l.length ≤ 281474976710656) (hs : s.size ≤ 1000) :
    Calls Tryd.prog 12 #[v, .int .i64 i, .string s] w fun r w' => r = .returned (tkV (stands 3 l i (spelledL l i s.data.toList))) ∧ Below w.heap.size w w' := by
  have hB0 : Byt (w.alloc (.cells #[.int .i64 0, .string ⟨#[]⟩, .int .i64 0, .int .i64 0] 25)) v l := Row.alloc hB _
  have h1 := spelled_any l i v s _ hB0 (by omega) hm hs
  cases hd : spelledL l i s.data.toList with
  | error n =>
    rw [hd] at h1
    simp only [plV, errV] at h1
    clear hd
    go_enter Tryd.func12, Tryd.ntmps12
    go_wp2_with (go_at_call 18; refine h1.mono ?_; rintro r w2 ⟨rfl, hb2⟩; obtain ⟨kc, kf, kz⟩ := keepT hb2)
    refine bodyPost_ret (v := .tuple #[tokV ⟨0, [], 0, 0⟩, errV n]) ?_ rfl ?_
    all_goals first | (exact ⟨rfl, (by with_reducible repeat (first | exact Below.refl _ _ | refine bl_t ?_ hb2 | refine bl_a ?_ _ | refine bl_s ?_ (by omega) _))⟩) | (simp [results, Tryd.results12, go_sem, tokV, errV, kc])
  | ok e =>
    rw [hd] at h1
    simp only [plV] at h1
    obtain ⟨e1, e2⟩ := spelledL_le _ hd
    have e3 := e2 (by omega)
    have h2 := fun w' (hb : Byt w' v l) => asItStands_any 3 l i e v w' hb hi (by omega) e3
    simp only [tokV] at h2
    clear hd e1 e2
    obtain ⟨t, ht⟩ : ∃ t, sub l i e = t := ⟨_, rfl⟩
    have HT : Hid (sub l i e = t) := ht
    rw [ht] at h2
    clear ht
    go_enter Tryd.func12, Tryd.ntmps12
    go_wp2_with (first | (go_at_call 18; refine h1.mono ?_; rintro r w2 ⟨rfl, hb2⟩; have hB2 := hB0.below hb2) | (go_at_call 11; refine (h2 _ hB2).mono ?_; rintro r w3 ⟨rfl, hb3⟩; obtain ⟨kc, kf, kz⟩ := keepT (bl_t hb2 hb3)))
    refine bodyPost_ret (v := .tuple #[tokV ⟨3, t, i, e⟩, .nilIface]) ?_ rfl ?_
    all_goals first | (exact ⟨by rw [← HT.out]; rfl, (by with_reducible repeat (first | exact Below.refl _ _ | refine bl_t ?_ hb3 | refine bl_t ?_ hb2 | refine bl_a ?_ _ | refine bl_s ?_ (by omega) _))⟩) | (simp [results, Tryd.results12, go_sem, tokV, kc])
end Go.Proofs.YtngpkgmgjbahgaaDoor
