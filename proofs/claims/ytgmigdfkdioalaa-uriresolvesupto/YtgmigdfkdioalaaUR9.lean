/-
  UriResolves: what a reference comes to. Conditions: paths of at most 2^44 bytes.
-/
import Derived.Test.YtgmigdfkdioalaaUR7
namespace Go.Proofs.Ytgmigdfkdioalaa
open Go.RowKit
attribute [local go_sem] setCell_drewN alloc_drewN

set_option maxRecDepth 100000 in
set_option maxHeartbeats 3200000 in
theorem resolves_walk (b u : Ur) (s : ByteArray) (w : World) (hs : b.path.length ≤ 17592186044416) (hs2 : u.path.length ≤ 17592186044416) (hs3 : s.size ≤ 17592186044416) :
    Calls Try.prog 4 #[uV b, uV u, .string s] w fun e w' => e = .returned (.bool true) ∧ Below w.heap.size w w' := by
  have c1 := fun w' => resolve_any b u w' (by omega) (by omega)
  have c2 := fun w' => rresolve_any b u w' hs hs2
  have c3 := fun w' => dots_any s w' (by omega)
  have c4 := fun w' => rdots_any s.data.toList w' (by rw [len_of]; omega)
  have c5 := heads_any
  simp only [bs_self] at c4
  generalize dotsL s.data.toList = ds at *
  obtain ⟨⟨rsch, rauth, rpath, rq, rfrag, rhA, rhQ, rhF⟩, hR⟩ : ∃ r, r = resolveL b u := ⟨_, rfl⟩
  simp only [← hR] at c1 c2
  clear hR
  obtain ⟨sch, auth, path, q, frag, hA, hQ, hF⟩ := u
  obtain ⟨bsch, bauth, bpath, bq, bfrag, bhA, bhQ, bhF⟩ := b
  simp only [uV, uc] at *
  clear hs hs2 hs3
  go_enter Try.func4, Try.ntmps4
  go_wp2_with fail
  have kb : Bk ((w.alloc (.cells #[.string (bs bsch), .string (bs bauth), .string (bs bpath), .string (bs bq), .string (bs bfrag), .bool bhA, .bool bhQ, .bool bhF] 23)).alloc (.cells #[.string (bs sch), .string (bs auth), .string (bs path), .string (bs q), .string (bs frag), .bool hA, .bool hQ, .bool hF] 23)) w.heap.size #[.string (bs bsch), .string (bs bauth), .string (bs bpath), .string (bs bq), .string (bs bfrag), .bool bhA, .bool bhQ, .bool bhF] := (Bk.new _ _ _).al _
  have ku : Bk ((w.alloc (.cells #[.string (bs bsch), .string (bs bauth), .string (bs bpath), .string (bs bq), .string (bs bfrag), .bool bhA, .bool bhQ, .bool bhF] 23)).alloc (.cells #[.string (bs sch), .string (bs auth), .string (bs path), .string (bs q), .string (bs frag), .bool hA, .bool hQ, .bool hF] 23)) (w.heap.size + 1) #[.string (bs sch), .string (bs auth), .string (bs path), .string (bs q), .string (bs frag), .bool hA, .bool hQ, .bool hF] := Bk.new' _ _ _ _ (by simp)
  have hb0 : Below w.heap.size w ((w.alloc (.cells #[.string (bs bsch), .string (bs bauth), .string (bs bpath), .string (bs bq), .string (bs bfrag), .bool bhA, .bool bhQ, .bool bhF] 23)).alloc (.cells #[.string (bs sch), .string (bs auth), .string (bs path), .string (bs q), .string (bs frag), .bool hA, .bool hQ, .bool hF] 23)) := bl_a (bl_a (Below.refl _ _) _) _
  generalize ((w.alloc (.cells #[.string (bs bsch), .string (bs bauth), .string (bs bpath), .string (bs bq), .string (bs bfrag), .bool bhA, .bool bhQ, .bool bhF] 23)).alloc (.cells #[.string (bs sch), .string (bs auth), .string (bs path), .string (bs q), .string (bs frag), .bool hA, .bool hQ, .bool hF] 23)) = W at *
  have hS : ∀ w', Below W.heap.size W w' → (∀ o, w'.cell? ⟨w.heap.size, o, none⟩ = #[.string (bs bsch), .string (bs bauth), .string (bs bpath), .string (bs bq), .string (bs bfrag), .bool bhA, .bool bhQ, .bool bhF][o]?) ∧ (∀ o, w'.cell? ⟨w.heap.size + 1, o, none⟩ = #[.string (bs sch), .string (bs auth), .string (bs path), .string (bs q), .string (bs frag), .bool hA, .bool hQ, .bool hF][o]?) := fun w' hb =>
    ⟨fun o => (kb.bel hb).cell o, fun o => (ku.bel hb).cell o⟩
  have HB : Hid (Below w.heap.size w W) := hb0
  clear kb ku hb0
  go_region_held3 (fun w' => (∀ o, w'.cell? ⟨w.heap.size, o, none⟩ = #[.string (bs bsch), .string (bs bauth), .string (bs bpath), .string (bs bq), .string (bs bfrag), .bool bhA, .bool bhQ, .bool bhF][o]?) ∧ (∀ o, w'.cell? ⟨w.heap.size + 1, o, none⟩ = #[.string (bs sch), .string (bs auth), .string (bs path), .string (bs q), .string (bs frag), .bool hA, .bool hQ, .bool hF][o]?)) (first | (refine hS _ ?_; with_reducible repeat (first | exact Below.refl _ _ | refine bl_t ?_ hc5 | refine bl_t ?_ hc4 | refine bl_t ?_ hc3 | refine bl_t ?_ hc2 | refine bl_t ?_ hc1 | refine bl_d ?_ | refine bl_n ?_ _ | refine bl_a ?_ _)) | fail) (first | (go_at_call 18; refine (c1 _).mono ?_; rintro r w7 ⟨rfl, hc1⟩) | (go_at_call 19; refine (c2 _).mono ?_; rintro r w8 ⟨rfl, hc2⟩) | (go_at_call 20; refine (c3 _).mono ?_; rintro r w9 ⟨rfl, hc3⟩) | (go_at_call 21; refine (c4 _).mono ?_; rintro r w10 ⟨rfl, rfl⟩) | (go_at_call 17; refine (c5 _).mono ?_; rintro r w11 ⟨rfl, hc5⟩) | fail)
  all_goals
    go_wp2
    go_ret
    exact ⟨rfl, bl_t HB.out (by with_reducible repeat (first | exact Below.refl _ _ | refine bl_t ?_ hc5 | refine bl_t ?_ hc4 | refine bl_t ?_ hc3 | refine bl_t ?_ hc2 | refine bl_t ?_ hc1 | refine bl_d ?_ | refine bl_n ?_ _ | refine bl_a ?_ _))⟩
end Go.Proofs.Ytgmigdfkdioalaa
