/-
  Plain mathematics: what a step of UTF-8 says of bytes that agree. No condition but that bytes are below 256.
-/
import Derived.Test.YtngpkgmgjbahgaaDoorUM2
namespace Go.Proofs.YtngpkgmgjbahgaaDoor
open Go.RowKit

theorem stN_range (c : Int) : stN c = 0 ∨ stN c = 1 ∨ stN c = 2 ∨ stN c = 3 ∨ stN c = 4 := by
  unfold stN; repeat' split
  all_goals omega

theorem stepF_false (r : Nat) (F : Nat → Int) (a : Nat) (h : stepF r F = (a, false)) :
    (a = 0 ∧ stN (F 0) = 0) ∨ (1 ≤ a ∧ a ≤ 3 ∧ (a : Int) < stN (F 0) ∧ (2 ≤ a → secB (F 0) (F 1) = true) ∧ (3 ≤ a → folB (F 2) = true) ∧ (r ≤ a ∨ (a = 1 ∧ secB (F 0) (F 1) = false) ∨ (a = 2 ∧ folB (F 2) = false) ∨ (a = 3 ∧ folB (F 3) = false))) := by
  have hr := stN_range (F 0)
  unfold stepF at h
  repeat' split at h
  all_goals simp only [Prod.mk.injEq, Bool.true_eq_false, and_false, and_true] at h
  · exact .inl ⟨h.symm, ‹_›⟩
  · subst h; exact .inr ⟨by omega, by omega, by omega, by omega, by omega, .inl ‹_›⟩
  · subst h; exact .inr ⟨by omega, by omega, by omega, by omega, by omega, .inr (.inl ⟨rfl, ‹_›⟩)⟩
  · subst h; exact .inr ⟨by omega, by omega, by omega, fun _ => by simp_all, by omega, .inl ‹_›⟩
  · subst h; exact .inr ⟨by omega, by omega, by omega, fun _ => by simp_all, by omega, .inr (.inr (.inl ⟨rfl, ‹_›⟩))⟩
  · subst h; exact .inr ⟨by omega, by omega, by omega, fun _ => by simp_all, fun _ => by simp_all, .inl ‹_›⟩
  · subst h; exact .inr ⟨by omega, by omega, by omega, fun _ => by simp_all, fun _ => by simp_all, .inr (.inr (.inr ⟨rfl, ‹_›⟩))⟩

theorem step_bad (r r' : Nat) (F G : Nat → Int) (a : Nat) (l : ∀ i, 0 ≤ G i) (u : ∀ i, G i < 256) (h : stepF r F = (a, false)) (har : a < r) (har' : a < r') (he : ∀ i, i ≤ a → G i = F i) : (stepF r' G).2 = false := by
  rcases stepF_false r F a h with ⟨rfl, z⟩ | ⟨a1, a3, ah, s2, s3, hb⟩
  · rw [stepF_none r' G (by rw [he 0 (by omega)]; exact z)]
  · have e0 := he 0 (by omega)
    have e1 := he 1 (by omega)
    have hp : passed r' G a := by
      refine ⟨fun h2 => ⟨by omega, ?_⟩, fun h3 => ⟨by omega, ?_⟩, fun h4 => by omega⟩
      · rw [e0, e1]; exact s2 h2
      · rw [he 2 (by omega)]; exact s3 h3
    have hb' : r' ≤ a ∨ folB (G a) = false ∨ okAt G a = false := by
      rcases hb with z | ⟨rfl, z⟩ | ⟨rfl, z⟩ | ⟨rfl, z⟩
      · omega
      · exact .inr (.inr (by simp [okAt, e0, e1, z]))
      · exact .inr (.inl (by rw [he 2 (by omega)]; exact z))
      · exact .inr (.inl (by rw [he 3 (by omega)]; exact z))
    rw [stepF_part r' G (l 0) (u 0) a a1 (by rw [e0]; exact ah) hp hb']

theorem step_good (r r' : Nat) (F G : Nat → Int) (a : Nat) (l : ∀ i, 0 ≤ G i) (u : ∀ i, G i < 256) (h : stepF r F = (a, true)) (har' : a ≤ r') (he : ∀ i, i < a → G i = F i) : stepF r' G = (a, true) := by
  have hr := stN_range (F 0)
  rcases stepF_true r F a h with ⟨rfl, z⟩ | ⟨rfl, z, _, s⟩ | ⟨rfl, z, _, s, t⟩ | ⟨rfl, z0, z1, z2, z3, _, s, t, v⟩
  · have e0 := he 0 (by omega)
    exact stepF_whole r' G (l 0) (u 0) (by rw [e0, z]; decide) 1 (by rw [e0, z]; rfl) ⟨by omega, by omega, by omega⟩
  · have e0 := he 0 (by omega)
    have e1 := he 1 (by omega)
    exact stepF_whole r' G (l 0) (u 0) (by rw [e0, z]; decide) 2 (by rw [e0, z]; rfl) ⟨fun _ => ⟨by omega, by rw [e0, e1]; exact s⟩, by omega, by omega⟩
  · have e0 := he 0 (by omega)
    have e1 := he 1 (by omega)
    have e2 := he 2 (by omega)
    exact stepF_whole r' G (l 0) (u 0) (by rw [e0, z]; decide) 3 (by rw [e0, z]; rfl) ⟨fun _ => ⟨by omega, by rw [e0, e1]; exact s⟩, fun _ => ⟨by omega, by rw [e2]; exact t⟩, by omega⟩
  · have e0 := he 0 (by omega)
    have e1 := he 1 (by omega)
    have e2 := he 2 (by omega)
    have e3 := he 3 (by omega)
    have z : stN (F 0) = 4 := by omega
    exact stepF_whole r' G (l 0) (u 0) (by rw [e0, z]; decide) 4 (by rw [e0, z]; rfl) ⟨fun _ => ⟨by omega, by rw [e0, e1]; exact s⟩, fun _ => ⟨by omega, by rw [e2]; exact t⟩, fun _ => ⟨by omega, by rw [e3]; exact v⟩⟩

end Go.Proofs.YtngpkgmgjbahgaaDoor
