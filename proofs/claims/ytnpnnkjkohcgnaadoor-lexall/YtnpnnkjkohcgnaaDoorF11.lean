/-
  LexAll answers true for every bytes. Conditions: at most 2^47 - 4096 of them; the table of greatest code points and errors.errorType as they are laid.
-/
import Derived.Test.YtnpnnkjkohcgnaaDoorF10
import Derived.Test.YtnpnnkjkohcgnaaDoorW1
import Derived.Deep.LoopGhost
namespace Go.Proofs.YtnpnnkjkohcgnaaDoor
open Go.RowKit
attribute [local go_sem] setCell_drewN alloc_drewN

theorem nextL_le {l : List UInt8} {i : Nat} {t : Tok} (hi : i ≤ l.length) (h : nextL l i = .ok t) (hk : t.kind ≠ 0) : i < t.to ∧ t.to ≤ l.length := by
  have a := pass_ge l blankB i
  rcases readL_le (pass_le hi) h with b | b
  · exact absurd b.1 hk
  · omega

set_option maxRecDepth 100000 in
set_option maxHeartbeats 3200000 in
theorem all_walk (l : List UInt8) (v : Value) (w : World) (hE : Env w) (hB : Byt w v l) (hm : l.length ≤ 140737488351232) :
    Calls Tryd.prog 4 #[v] w fun r w' => r = .returned (.bool true) ∧ Below w.heap.size w w' := by
  have g9 := fun w' (hb : Below w.heap.size w w') => heads4_any w' (hE.below hb)
  obtain ⟨aa, cap, rfl, _⟩ := hB.shape
  have hlI : (l.length : Int) ≤ 140737488351232 := by omega
  go_enter Tryd.func4, Tryd.ntmps4
  go_wp2_with fail
  go_loopg [3, 4] (l.length + 1) (fun g s3 s4 wr => ∃ k at_ : Nat, k ≤ at_ ∧ at_ ≤ l.length ∧ g = l.length + 1 - k ∧ s3 = .int .i64 (at_ : Int) ∧ s4 = .int .i64 (k : Int) ∧ Below w.heap.size w wr)
  case atStart => exact ⟨0, 0, Nat.le_refl _, Nat.zero_le _, rfl, rfl, rfl, Below.refl _ _⟩
  case round =>
    obtain ⟨k, at_, hk, hal, rfl, rfl, rfl, hbel⟩ := hrel
    have hI : (k : Int) < (l.length : Int) + 1 := by omega
    have g1 := next_any l at_ _ wr (hE.below hbel) (hB.below hbel) hal hm
    have g2 := fun w' (hb : Below w.heap.size w w') => rnext_any l at_ _ w' (hB.below hb) hal hm
    cases hn : nextL l at_ with
    | error n =>
      rw [hn] at g1 g2
      simp only [nxV, tokV] at g1 g2
      have hq := eqIn_tok 0 ⟨#[]⟩ 0 0 0 ⟨#[]⟩ 0 0
      rw [show eqT 0 ⟨#[]⟩ 0 0 0 ⟨#[]⟩ 0 0 = true by simp [eqT]] at hq
      clear hn
      go_wp2_with (first | (go_at_call 6; refine g1.mono ?_; rintro r w1 ⟨rfl, hb1⟩; have hb11 := bl_a (bl_t hbel hb1) (.cells #[.int .i64 0, .string ⟨#[]⟩, .int .i64 0, .int .i64 0] 25)) | (go_at_call 7; refine (g2 _ hb11).mono ?_; rintro r w2 ⟨rfl, hb2⟩; obtain ⟨kc, kz⟩ := keepC (bl_a hb2 (.cells #[.int .i64 0, .string ⟨#[]⟩, .int .i64 0, .int .i64 0] 25)); have hb22 := bl_a (bl_t hb11 hb2) (.cells #[.int .i64 0, .string ⟨#[]⟩, .int .i64 0, .int .i64 0] 25)) | (go_at_call 8; refine (g9 _ hb22).mono ?_; rintro r w5 ⟨rfl, hb5⟩))
      go_ret
      exact ⟨rfl, bl_t hb22 hb5⟩
    | ok t =>
      have hle := nextL_le hal hn
      rw [hn] at g1 g2
      obtain ⟨kind, text, fr, te⟩ := t
      simp only [nxV, tokV] at g1 g2
      simp only at hle
      have hq := eqIn_tok (kind : Nat) ⟨text.toArray⟩ (fr : Nat) (te : Nat) (kind : Nat) ⟨text.toArray⟩ (fr : Nat) (te : Nat)
      rw [show eqT (kind : Nat) ⟨text.toArray⟩ (fr : Nat) (te : Nat) (kind : Nat) ⟨text.toArray⟩ (fr : Nat) (te : Nat) = true by simp [eqT]] at hq
      generalize (⟨text.toArray⟩ : ByteArray) = s at *
      obtain ⟨K, hK⟩ : ∃ K : Int, ((kind : Nat) : Int) = K := ⟨_, rfl⟩
      rw [hK] at g1 g2 hq
      clear hn
      by_cases h0 : kind = 0
      · have hk0 : (K == 0) = true := by rw [← hK, h0]; rfl
        clear hK h0 hle
        go_wp2_with (first | (go_at_call 6; refine g1.mono ?_; rintro r w1 ⟨rfl, hb1⟩; have hb11 := bl_a (bl_t hbel hb1) (.cells #[.int .i64 K, .string s, .int .i64 fr, .int .i64 te] 25)) | (go_at_call 7; refine (g2 _ hb11).mono ?_; rintro r w2 ⟨rfl, hb2⟩; obtain ⟨kc, kz⟩ := keepC (bl_a hb2 (.cells #[.int .i64 K, .string s, .int .i64 fr, .int .i64 te] 25)); have hb22 := bl_a (bl_t hb11 hb2) (.cells #[.int .i64 K, .string s, .int .i64 fr, .int .i64 te] 25)) | (go_at_call 8; refine (g9 _ hb22).mono ?_; rintro r w5 ⟨rfl, hb5⟩))
        go_ret
        exact ⟨rfl, bl_t hb22 hb5⟩
      · have hk0 : (K == 0) = false := beq_eq_false_iff_ne.2 (by omega)
        have hle2 := hle h0
        clear hK h0 hle
        go_wp2_with (first | (go_at_call 6; refine g1.mono ?_; rintro r w1 ⟨rfl, hb1⟩; have hb11 := bl_a (bl_t hbel hb1) (.cells #[.int .i64 K, .string s, .int .i64 fr, .int .i64 te] 25)) | (go_at_call 7; refine (g2 _ hb11).mono ?_; rintro r w2 ⟨rfl, hb2⟩; obtain ⟨kc, kz⟩ := keepC (bl_a hb2 (.cells #[.int .i64 K, .string s, .int .i64 fr, .int .i64 te] 25)); have hb22 := bl_a (bl_t hb11 hb2) (.cells #[.int .i64 K, .string s, .int .i64 fr, .int .i64 te] 25)))
        go_roundg (l.length + 1 - (k + 1))
        case measure => omega
        case rel => exact ⟨k + 1, te, by omega, hle2.2, rfl, rfl, by go_num, hb22⟩
end Go.Proofs.YtnpnnkjkohcgnaaDoor
