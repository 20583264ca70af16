/-
  nat and ref answer alike, call by call: the same number, and the same error. Conditions: at most 60 limbs.
-/
import Derived.Test.YtmhplblmabiekaaR5
namespace Go.Proofs.Ytmhplblmabiekaa
open Go.RowKit

def Two (F : FuncId) (n m : Nat) (f g : Nat → Int) (e X : Int) : Prop := ∀ v0 v1 w, Row w v0 n f → Row w v1 m g → Calls Try.prog F #[v0, v1] w fun x w' => ∃ r, x = .returned (.tuple #[r, .int .i64 e]) ∧ Num w' r X ∧ Below w.heap.size w w'
theorem two_nil {F : FuncId} {n m : Nat} {f g : Nat → Int} {e : Int} (h : ∀ v0 v1 w, Row w v0 n f → Row w v1 m g → Calls Try.prog F #[v0, v1] w fun x w' => x = .returned (.tuple #[.slice none 0 0, .int .i64 e]) ∧ Below w.heap.size w w') : Two F n m f g e 0 := fun v0 v1 w h0 h1 =>
  (h v0 v1 w h0 h1).mono (by rintro x w' ⟨rfl, hb⟩; exact ⟨_, rfl, num_nil _, hb⟩)
theorem same_below {P : Prop} {w w' : World} (h : P ∧ w = w') : P ∧ Below w.heap.size w w' := ⟨h.1, by rw [← h.2]; exact Below.refl _ _⟩
theorem pw400 {n : Nat} {f : Nat → Int} (hc : Limbs n f) (hn : n ≤ 60) : val f n < pw 400 := lt_pw (val_lt hc) (by omega)
theorem pow_two_both (n m : Nat) (f g : Nat → Int) (hn : n ≤ 60) (hm : m ≤ 60) :
    (∃ e X, 0 ≤ e ∧ e ≤ 20 ∧ Two 11 n m f g e X ∧ Two 12 n m f g e X) ∧
    (∃ e X, 0 ≤ e ∧ e ≤ 20 ∧ Two 13 n m f g e X ∧ Two 14 n m f g e X) ∧
    (∃ e X, 0 ≤ e ∧ e ≤ 20 ∧ Two 16 n m f g e X ∧ Two 17 n m f g e X) := by
  by_cases hk : Can n f ∧ Can m g
  · obtain ⟨c0, c1⟩ := hk
    have b0 := pw400 c0.1 hn
    have b1 := pw400 c1.1 hm
    refine ⟨⟨0, _, by omega, by omega, fun v0 v1 w h0 h1 => add_ok v0 v1 _ _ n m f g w h0 h1 c0 c1 rfl rfl (by omega) (by omega), fun v0 v1 w h0 h1 => radd_ok v0 v1 _ _ n m f g w h0 h1 c0 c1 rfl rfl (by omega) (by omega)⟩, ?_, ⟨0, _, by omega, by omega, fun v0 v1 w h0 h1 => mul_ok v0 v1 _ _ n m f g w h0 h1 c0 c1 rfl rfl (by omega) (by omega), fun v0 v1 w h0 h1 => rmul_ok v0 v1 _ _ n m f g w h0 h1 c0 c1 rfl rfl b0 b1⟩⟩
    by_cases hlt : val f n < val g m
    · exact ⟨2, 0, by omega, by omega, two_nil fun v0 v1 w h0 h1 => nsub_less v0 v1 n m f g w h0 h1 c0 c1 hlt, two_nil fun v0 v1 w h0 h1 => rsub_less v0 v1 _ _ n m f g w h0 h1 c0 c1 rfl rfl hlt⟩
    · exact ⟨0, _, by omega, by omega, fun v0 v1 w h0 h1 => sub_ok v0 v1 _ _ n m f g w h0 h1 c0 c1 rfl rfl (by omega) (by omega), fun v0 v1 w h0 h1 => rsub_ok v0 v1 _ _ n m f g w h0 h1 c0 c1 rfl rfl b0 (by omega)⟩
  · exact ⟨⟨2, 0, by omega, by omega, two_nil fun v0 v1 w h0 h1 => add_bad v0 v1 n m f g w h0 h1 hk, two_nil fun v0 v1 w h0 h1 => (radd_bad v0 v1 n m f g w h0 h1 hk).mono fun _ _ h => same_below h⟩,
      ⟨2, 0, by omega, by omega, two_nil fun v0 v1 w h0 h1 => nsub_bad v0 v1 n m f g w h0 h1 hk, two_nil fun v0 v1 w h0 h1 => (rsub_bad v0 v1 n m f g w h0 h1 hk).mono fun _ _ h => same_below h⟩,
      ⟨2, 0, by omega, by omega, two_nil fun v0 v1 w h0 h1 => nmul_bad v0 v1 n m f g w h0 h1 hk, two_nil fun v0 v1 w h0 h1 => (rmul_bad v0 v1 n m f g w h0 h1 hk).mono fun _ _ h => same_below h⟩⟩
def CmpT (F : FuncId) (n m : Nat) (f g : Nat → Int) (e C : Int) : Prop := ∀ v0 v1 w, Row w v0 n f → Row w v1 m g → Calls Try.prog F #[v0, v1] w fun x w' => x = .returned (.tuple #[.int .i64 C, .int .i64 e]) ∧ Below w.heap.size w w'
theorem cmp_both (n m : Nat) (f g : Nat → Int) : ∃ e C, 0 ≤ e ∧ e ≤ 20 ∧ CmpT 9 n m f g e C ∧ CmpT 10 n m f g e C := by
  by_cases hk : Can n f ∧ Can m g
  · obtain ⟨c0, c1⟩ := hk
    exact ⟨0, _, by omega, by omega, fun v0 v1 w h0 h1 => compare_num v0 v1 _ _ w (num_row h0 c0) (num_row h1 c1), fun v0 v1 w h0 h1 => rcompare_ok v0 v1 _ _ n m f g w h0 h1 c0 c1 rfl rfl⟩
  · exact ⟨2, 0, by omega, by omega, fun v0 v1 w h0 h1 => ncompare_bad v0 v1 n m f g w h0 h1 hk, fun v0 v1 w h0 h1 => (rcompare_bad v0 v1 n m f g w h0 h1 hk).mono fun _ _ h => same_below h⟩
def Three (F : FuncId) (n m : Nat) (f g : Nat → Int) (e X Y : Int) : Prop := ∀ v0 v1 w, Row w v0 n f → Row w v1 m g → Calls Try.prog F #[v0, v1] w fun x w' => ∃ rq, ∃ rr, x = .returned (.tuple #[rq, rr, .int .i64 e]) ∧ (Num w' rq X ∧ Num w' rr Y) ∧ Below w.heap.size w w'
theorem three_nil {F : FuncId} {n m : Nat} {f g : Nat → Int} {e : Int} (h : ∀ v0 v1 w, Row w v0 n f → Row w v1 m g → Calls Try.prog F #[v0, v1] w fun x w' => x = .returned (.tuple #[.slice none 0 0, .slice none 0 0, .int .i64 e]) ∧ Below w.heap.size w w') : Three F n m f g e 0 0 := fun v0 v1 w h0 h1 =>
  (h v0 v1 w h0 h1).mono (by rintro x w' ⟨rfl, hb⟩; exact ⟨_, _, rfl, ⟨num_nil _, num_nil _⟩, hb⟩)
theorem three_div {F : FuncId} {n m : Nat} {f g : Nat → Int} {A B : Int} (h : ∀ v0 v1 w, Row w v0 n f → Row w v1 m g → Calls Try.prog F #[v0, v1] w fun x w' => ∃ rq, ∃ rr, x = .returned (.tuple #[rq, rr, .int .i64 0]) ∧ Divides w' rq rr A B ∧ Below w.heap.size w w') : Three F n m f g 0 (A / B) (A % B) := fun v0 v1 w h0 h1 =>
  (h v0 v1 w h0 h1).mono (by
    rintro x w' ⟨rq, rr, rfl, ⟨Q, R, hQ, hR, eD, R0, R1⟩, hb⟩
    obtain ⟨e1, e2⟩ := divides_eq eD R0 R1
    rw [e1] at hQ
    rw [e2] at hR
    exact ⟨_, _, rfl, ⟨hQ, hR⟩, hb⟩)
theorem div_both (n m : Nat) (f g : Nat → Int) (hn : n ≤ 60) (hm : m ≤ 60) : ∃ e X Y, 0 ≤ e ∧ e ≤ 20 ∧ Three 18 n m f g e X Y ∧ Three 19 n m f g e X Y := by
  by_cases hk : Can n f ∧ Can m g
  · obtain ⟨c0, c1⟩ := hk
    have b0 := pw400 c0.1 hn
    have b1 := pw400 c1.1 hm
    by_cases hz : m = 0
    · exact ⟨20, 0, 0, by omega, by omega, three_nil fun v0 v1 w h0 h1 => by subst hz; exact div_zero v0 v1 n f g w h0 h1 c0, three_nil fun v0 v1 w h0 h1 => (rdiv_zero v0 v1 _ _ n m f g w h0 h1 c0 c1 rfl rfl hz).mono fun _ _ h => same_below h⟩
    · have B0 : 0 < val g m := by have k1 := can_ge c1 (by omega); have k2 := pw_pos (m - 1); omega
      exact ⟨0, _, _, by omega, by omega, three_div fun v0 v1 w h0 h1 => div_num v0 v1 _ _ w (num_row h0 c0) (num_row h1 c1) (lt_pw b0 (by omega)) B0, three_div fun v0 v1 w h0 h1 => rdiv_ok v0 v1 _ _ n m f g w h0 h1 c0 c1 rfl rfl b0 b1 B0⟩
  · exact ⟨2, 0, 0, by omega, by omega, three_nil fun v0 v1 w h0 h1 => ndiv_bad v0 v1 n m f g w h0 h1 hk, three_nil fun v0 v1 w h0 h1 => (rdiv_bad v0 v1 n m f g w h0 h1 hk).mono fun _ _ h => same_below h⟩
def PowT (F : FuncId) (n m : Nat) (f g : Nat → Int) (nn e X : Int) : Prop := ∀ v0 v1 w, Row w v0 n f → Row w v1 m g → Calls Try.prog F #[v0, .int .i64 nn, v1] w fun x w' => ∃ r, x = .returned (.tuple #[r, .int .i64 e]) ∧ Num w' r X ∧ Below w.heap.size w w'
theorem pow_nil {F : FuncId} {n m : Nat} {f g : Nat → Int} {nn e : Int} (h : ∀ v0 v1 w, Row w v0 n f → Row w v1 m g → Calls Try.prog F #[v0, .int .i64 nn, v1] w fun x w' => x = .returned (.tuple #[.slice none 0 0, .int .i64 e]) ∧ Below w.heap.size w w') : PowT F n m f g nn e 0 := fun v0 v1 w h0 h1 =>
  (h v0 v1 w h0 h1).mono (by rintro x w' ⟨rfl, hb⟩; exact ⟨_, rfl, num_nil _, hb⟩)
theorem pow_both (n m : Nat) (f g : Nat → Int) (nn : Int) (hn : n ≤ 60) (hm : m ≤ 60) (n1 : nn < 9223372036854775808) : ∃ e X, 0 ≤ e ∧ e ≤ 20 ∧ PowT 20 n m f g nn e X ∧ PowT 21 n m f g nn e X := by
  by_cases hk : Can n f ∧ Can m g
  · obtain ⟨c0, c1⟩ := hk
    have b0 := pw400 c0.1 hn
    have b1 := pw400 c1.1 hm
    by_cases hz : m = 0
    · exact ⟨20, 0, by omega, by omega, pow_nil fun v0 v1 w h0 h1 => npower_zero v0 v1 n m f g nn w h0 h1 c0 c1 hz, pow_nil fun v0 v1 w h0 h1 => (rpower_zero v0 v1 _ _ n m f g nn w h0 h1 c0 c1 rfl rfl hz).mono fun _ _ h => same_below h⟩
    · by_cases hneg : nn < 0
      · exact ⟨2, 0, by omega, by omega, pow_nil fun v0 v1 w h0 h1 => npower_neg v0 v1 n m f g nn w h0 h1 c0 c1 (by omega) hneg, pow_nil fun v0 v1 w h0 h1 => (rpower_neg v0 v1 _ _ n m f g nn w h0 h1 c0 c1 rfl rfl (by omega) hneg).mono fun _ _ h => same_below h⟩
      · have B0 : 0 < val g m := by have k1 := can_ge c1 (by omega); have k2 := pw_pos (m - 1); omega
        exact ⟨0, _, by omega, by omega, fun v0 v1 w h0 h1 => power_num v0 v1 _ _ nn w (num_row h0 c0) (num_row h1 c1) b0 B0 b1 (by omega) n1, fun v0 v1 w h0 h1 => rpower_ok v0 v1 _ _ n m f g nn w h0 h1 c0 c1 rfl rfl b0 b1 B0 (by omega) n1⟩
  · exact ⟨2, 0, by omega, by omega, pow_nil fun v0 v1 w h0 h1 => npower_bad v0 v1 n m f g nn w h0 h1 hk, pow_nil fun v0 v1 w h0 h1 => (rpower_bad v0 v1 n m f g nn w h0 h1 hk).mono fun _ _ h => same_below h⟩
end Go.Proofs.Ytmhplblmabiekaa
