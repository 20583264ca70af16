/-
  A right tree, compiled. Conditions: there is room; nothing in the tree is longer than 2^20.
-/
import Derived.Test.YtcgohdfpmfpfiaaG28
namespace Go.Proofs.Ytcgohdfpmfpfiaa
open Go.RowKit
attribute [local go_sem] setCell_drewN alloc_drewN

theorem rep_mem (g : Nat → List ST) (q : Nat) (s : ST) : ∀ c n, s ∈ rep g q n c → ∃ m, s ∈ g m
  | 0, _, h => by simp [rep] at h
  | c + 1, n, h => by
    rcases List.mem_append.1 h with h | h
    · exact ⟨n, h⟩
    · exact rep_mem g q s c _ h
theorem bldL_mem (s : ST) : ∀ (l : List RX) (n : Nat), s ∈ bldL l n → ∃ x ∈ l, ∃ m, s ∈ bld x m
  | [], _, h => by simp [bldL] at h
  | x :: l, n, h => by
    rcases List.mem_append.1 h with h | h
    · exact ⟨x, by simp, n, h⟩
    · obtain ⟨y, hy, m, hm⟩ := bldL_mem s l _ h
      exact ⟨y, by simp [hy], m, hm⟩
theorem bldA_mem (s : ST) : ∀ (l : List RX) (n e : Nat), s ∈ bldA l n e → (∃ x ∈ l, ∃ m, s ∈ bld x m) ∨ s.r = []
  | [], _, _, h => by simp [bldA] at h
  | x :: l, n, e, h => by
    rw [bldA] at h
    rcases List.mem_append.1 h with h | h
    · by_cases h0 : l.length = 0
      · rw [if_pos h0] at h
        exact Or.inl ⟨x, by simp, n, h⟩
      · rw [if_neg h0] at h
        rcases List.mem_cons.1 h with rfl | h
        · exact Or.inr rfl
        · rcases List.mem_append.1 h with h | h
          · exact Or.inl ⟨x, by simp, _, h⟩
          · obtain rfl := List.mem_singleton.1 h
            exact Or.inr rfl
    · rcases bldA_mem s l _ e h with ⟨y, hy, m, hm⟩ | h
      · exact Or.inl ⟨y, by simp [hy], m, hm⟩
      · exact Or.inr h
theorem bld_rl (N : Nat) : ∀ (t : RX), BdX N t → ∀ n, ∀ s ∈ bld t n, s.r.length ≤ N := by
  intro t
  induction t using RX.ind with
  | h k r lo hi z s ih =>
    intro hb n st hst
    have hx : ∀ x ∈ s, ∀ m, st ∈ bld x m → st.r.length ≤ N := fun x hx m hm => ih x hx (hb.s x hx) m st hm
    have hL : ∀ m, st ∈ bldL s m → st.r.length ≤ N := fun m hm => by
      obtain ⟨x, h1, m', h2⟩ := bldL_mem st s m hm
      exact hx x h1 m' h2
    by_cases c5 : k = 5
    · subst c5
      rw [bld_5] at hst
      by_cases hh : hi = -1
      · rw [if_pos hh] at hst
        rcases List.mem_append.1 hst with h | h
        · obtain ⟨m, hm⟩ := rep_mem _ _ _ _ _ h
          exact hL m hm
        · rcases List.mem_append.1 h with h | h
          · rcases List.mem_cons.1 h with rfl | h
            · exact Nat.zero_le _
            · exact hL _ h
          · obtain rfl := List.mem_singleton.1 h
            exact Nat.zero_le _
      · rw [if_neg hh] at hst
        rcases List.mem_append.1 hst with h | h
        · obtain ⟨m, hm⟩ := rep_mem _ _ _ _ _ h
          exact hL m hm
        · obtain ⟨m, hm⟩ := rep_mem _ _ _ _ _ h
          rcases List.mem_cons.1 hm with rfl | hm
          · exact Nat.zero_le _
          · exact hL _ hm
    · rw [bld] at hst
      by_cases c2 : k = 2
      · rw [if_pos c2] at hst
        obtain rfl := List.mem_singleton.1 hst
        exact hb.r
      · rw [if_neg c2] at hst
        by_cases c6 : k = 6
        · rw [if_pos c6] at hst; obtain rfl := List.mem_singleton.1 hst; exact Nat.zero_le _
        · rw [if_neg c6] at hst
          by_cases c7 : k = 7
          · rw [if_pos c7] at hst; obtain rfl := List.mem_singleton.1 hst; exact Nat.zero_le _
          · rw [if_neg c7] at hst
            by_cases c8 : k = 8
            · rw [if_pos c8] at hst; obtain rfl := List.mem_singleton.1 hst; exact Nat.zero_le _
            · rw [if_neg c8] at hst
              by_cases c9 : k = 9
              · rw [if_pos c9] at hst; obtain rfl := List.mem_singleton.1 hst; exact Nat.zero_le _
              · rw [if_neg c9] at hst
                by_cases c3 : k = 3
                · rw [if_pos c3] at hst; exact hL _ hst
                · rw [if_neg c3] at hst
                  by_cases c4 : k = 4
                  · rw [if_pos c4] at hst
                    rcases bldA_mem st s _ _ hst with ⟨x, h1, m', h2⟩ | h
                    · exact hx x h1 m' h2
                    · rw [h]; exact Nat.zero_le _
                  · rw [if_neg c4, if_neg c5] at hst; simp at hst
theorem yok_of {t : RX} {d : Nat} (hr : rightB d t = true) (hb : BdX 1048576 t) : YOK t :=
  ⟨bld_len t d hr, fun M n hM s hs => bld_good t d hr M n hM s hs, fun n s hs => Nat.le_trans (bld_rl 1048576 t hb n s hs) (by omega)⟩
theorem bld_3 (r : List (Int × Int)) (lo hi : Int) (z : Bool) (s : List RX) (n : Nat) : bld (.mk 3 r lo hi z s) n = bldL s n := by rw [bld]; rfl
theorem bld_4 (r : List (Int × Int)) (lo hi : Int) (z : Bool) (s : List RX) (n : Nat) : bld (.mk 4 r lo hi z s) n = bldA s n (n + (szL s + (s.length - 1) * 2)) := by rw [bld]; rfl
theorem szX_3 (r : List (Int × Int)) (lo hi : Int) (z : Bool) (s : List RX) : szX (.mk 3 r lo hi z s) = szL s := by rw [szX]; rfl
theorem szX_4 (r : List (Int × Int)) (lo hi : Int) (z : Bool) (s : List RX) : szX (.mk 4 r lo hi z s) = szL s + (s.length - 1) * 2 := by rw [szX]; rfl
set_option maxRecDepth 100000 in
theorem part1_any (w : World) : Calls Try.prog 38 #[] w fun e w' => e = .returned (.tuple #[]) ∧ Below w.heap.size w w' := by
  go_enter Try.func38, Try.ntmps38
  go_wp2_with fail
  go_end0
  exact ⟨rfl, Below.refl _ _⟩
set_option maxRecDepth 100000 in
theorem row_any (lb sb : Nat) (ao : Option Addr) (n c : Nat) (w : World) (hlb : lb < w.heap.size ∧ sb < w.heap.size) :
    Calls Try.prog 35 #[.pointer (some ⟨lb, 0, none⟩), .slice ao n c] w fun e w' => ∃ p q, e = .returned (.func (.func 42) #[] #[.pointer (some ⟨p, 0, none⟩), .pointer (some ⟨q, 0, none⟩)]) ∧ w'.cell? ⟨p, 0, none⟩ = some (.slice ao n c) ∧ w'.cell? ⟨q, 0, none⟩ = some (.pointer (some ⟨lb, 0, none⟩)) ∧ ¬ two lb sb p ∧ ¬ two lb sb q ∧ Below w.heap.size w w' := by
  obtain ⟨W, hW⟩ : ∃ W, (w.alloc (.cells #[.pointer (some ⟨lb, 0, none⟩)] 58)).alloc (.cells #[.slice ao n c] 30) = W := ⟨_, rfl⟩
  have hbW : Below w.heap.size w W := hW ▸ vb_a (vb_a (Below.refl _ _) _) _
  have k1 : Bk W w.heap.size #[.pointer (some ⟨lb, 0, none⟩)] := hW ▸ (Bk.new _ _ _).al _
  have k2 : Bk W (w.heap.size + 1) #[.slice ao n c] := hW ▸ Bk.new' _ _ _ _ (by simp)
  have HF : Hid (W.cell? ⟨w.heap.size + 1, 0, none⟩ = some (.slice ao n c) ∧ W.cell? ⟨w.heap.size, 0, none⟩ = some (.pointer (some ⟨lb, 0, none⟩)) ∧ ¬ two lb sb (w.heap.size + 1) ∧ ¬ two lb sb w.heap.size ∧ Below w.heap.size w W) := hid_intro ⟨k2.cell 0, k1.cell 0, fun e => by rcases e with e | e <;> omega, fun e => by rcases e with e | e <;> omega, hbW⟩
  have HW := hid_intro hW
  clear hW hbW k1 k2 hlb
  go_enter Try.func35, Try.ntmps35
  go_wp2_with fail
  go_ret
  rw [HW.out]
  exact ⟨_, _, rfl, HF.out⟩
set_option maxRecDepth 100000 in
theorem choice_any (lb sb : Nat) (ao : Option Addr) (n c : Nat) (hn : 2 ≤ n ∧ n ≤ 1048576) (w : World) (hlb : lb < w.heap.size ∧ sb < w.heap.size) :
    Calls Try.prog 36 #[.pointer (some ⟨lb, 0, none⟩), .slice ao n c] w fun e w' => ∃ p q r, e = .returned (.func (.func 43) #[] #[.pointer (some ⟨p, 0, none⟩), .pointer (some ⟨q, 0, none⟩), .pointer (some ⟨r, 0, none⟩)]) ∧ w'.cell? ⟨p, 0, none⟩ = some (.slice ao n c) ∧ w'.cell? ⟨q, 0, none⟩ = some (.int .i64 ((n : Int) - 1)) ∧ w'.cell? ⟨r, 0, none⟩ = some (.pointer (some ⟨lb, 0, none⟩)) ∧ (¬ two lb sb p ∧ ¬ two lb sb q ∧ ¬ two lb sb r) ∧ Below w.heap.size w w' := by
  obtain ⟨W, hW⟩ : ∃ W, ((w.alloc (.cells #[.pointer (some ⟨lb, 0, none⟩)] 58)).alloc (.cells #[.slice ao n c] 30)).alloc (.cells #[.int .i64 ((n : Int) - 1)] 3) = W := ⟨_, rfl⟩
  have hbW : Below w.heap.size w W := hW ▸ vb_a (vb_a (vb_a (Below.refl _ _) _) _) _
  have k1 : Bk W w.heap.size #[.pointer (some ⟨lb, 0, none⟩)] := hW ▸ ((Bk.new _ _ _).al _).al _
  have k2 : Bk W (w.heap.size + 1) #[.slice ao n c] := hW ▸ (Bk.new' _ _ _ _ (by simp)).al _
  have k3 : Bk W (w.heap.size + 2) #[.int .i64 ((n : Int) - 1)] := hW ▸ Bk.new' _ _ _ _ (by simp)
  have HF := hid_intro (And.intro (k2.cell 0) (And.intro (k3.cell 0) (And.intro (k1.cell 0) (And.intro (show ¬ two lb sb (w.heap.size + 1) ∧ ¬ two lb sb (w.heap.size + 2) ∧ ¬ two lb sb w.heap.size from ⟨fun e => by rcases e with e | e <;> omega, fun e => by rcases e with e | e <;> omega, fun e => by rcases e with e | e <;> omega⟩) hbW))))
  have HW := hid_intro hW
  have hw1 : wrap64 ((n : Int) - 1) = (n : Int) - 1 := wrap64_of (by omega) (by omega)
  have hI : (n : Int) ≤ 1048576 := by omega
  clear hW hbW k1 k2 k3 hlb hn
  go_enter Try.func36, Try.ntmps36
  go_wp2_with fail
  go_ret
  rw [HW.out]
  exact ⟨_, _, _, rfl, HF.out⟩
set_option maxRecDepth 100000 in
theorem repeat_fn (lb sb : Nat) (k : Int) (a1 : Option Addr) (rn c1 : Nat) (lo hi : Int) (z : Bool) (ao : Option Addr) (n c : Nat) (w : World) (hlb : lb < w.heap.size ∧ sb < w.heap.size) :
    Calls Try.prog 37 #[.pointer (some ⟨lb, 0, none⟩), .agg #[.int .i64 k, .slice a1 rn c1, .int .i64 lo, .int .i64 hi, .bool z, .slice ao n c]] w fun e w' => ∃ p q, e = .returned (.func (.func 46) #[] #[.pointer (some ⟨p, 0, none⟩), .pointer (some ⟨q, 0, none⟩)]) ∧ w'.cell? ⟨p, 0, none⟩ = some (.pointer (some ⟨lb, 0, none⟩)) ∧ (w'.cell? ⟨q, 2, none⟩ = some (.int .i64 lo) ∧ w'.cell? ⟨q, 3, none⟩ = some (.int .i64 hi) ∧ w'.cell? ⟨q, 5, none⟩ = some (.slice ao n c)) ∧ ¬ two lb sb p ∧ ¬ two lb sb q ∧ Below w.heap.size w w' := by
  obtain ⟨W, hW⟩ : ∃ W, (w.alloc (.cells #[.pointer (some ⟨lb, 0, none⟩)] 58)).alloc (.cells #[.int .i64 k, .slice a1 rn c1, .int .i64 lo, .int .i64 hi, .bool z, .slice ao n c] 32) = W := ⟨_, rfl⟩
  have hbW : Below w.heap.size w W := hW ▸ vb_a (vb_a (Below.refl _ _) _) _
  have k1 : Bk W w.heap.size #[.pointer (some ⟨lb, 0, none⟩)] := hW ▸ (Bk.new _ _ _).al _
  have k2 : Bk W (w.heap.size + 1) #[.int .i64 k, .slice a1 rn c1, .int .i64 lo, .int .i64 hi, .bool z, .slice ao n c] := hW ▸ Bk.new' _ _ _ _ (by simp)
  have HF : Hid (W.cell? ⟨w.heap.size, 0, none⟩ = some (.pointer (some ⟨lb, 0, none⟩)) ∧ (W.cell? ⟨w.heap.size + 1, 2, none⟩ = some (.int .i64 lo) ∧ W.cell? ⟨w.heap.size + 1, 3, none⟩ = some (.int .i64 hi) ∧ W.cell? ⟨w.heap.size + 1, 5, none⟩ = some (.slice ao n c)) ∧ ¬ two lb sb w.heap.size ∧ ¬ two lb sb (w.heap.size + 1) ∧ Below w.heap.size w W) := hid_intro ⟨k1.cell 0, ⟨k2.cell 2, k2.cell 3, k2.cell 5⟩, fun e => by rcases e with e | e <;> omega, fun e => by rcases e with e | e <;> omega, hbW⟩
  have HW := hid_intro hW
  clear hW hbW k1 k2 hlb
  go_enter Try.func37, Try.ntmps37
  go_wp2_with fail
  go_ret
  rw [HW.out]
  exact ⟨_, _, rfl, HF.out⟩
end Go.Proofs.Ytcgohdfpmfpfiaa
