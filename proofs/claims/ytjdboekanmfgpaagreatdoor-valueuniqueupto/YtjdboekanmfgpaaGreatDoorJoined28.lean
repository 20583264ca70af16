/-
  What lex.read answers: the token that begins just at a place, or where it is bad. Conditions: the bytes lie in memory, at most 2^45 of them; the table of greatest code points holds its four numbers.
-/
import Derived.Test.YtjdboekanmfgpaaGreatDoorJoined25
import Derived.Test.YtjdboekanmfgpaaGreatDoorJoined26
import Derived.Test.YtjdboekanmfgpaaGreatDoorJoined27
namespace Go.Proofs.YtjdboekanmfgpaaGreatDoor.Lx
open Go.RowKit
attribute [local go_sem] setCell_drewN alloc_drewN

theorem among_at (c : Int) (ws : List UInt8) (w : World) (b : Nat) (cs : Array Value) (n : Nat) (x : Bool) (hb : w.heap.size = b) (hc : cs = (ws.map fun c => Value.int .u8 (c.toNat : Nat)).toArray) (hn : n = ws.length) (hm : ws.length ≤ 1000) (hx : (ws.any fun d => c == (d.toNat : Int)) = x) :
  Calls Tryz.prog 163 #[.int .u8 c, .slice (some ⟨b, 0, none⟩) n n] (w.alloc (.cells cs 5)) fun r w' => r = .returned (.bool x) ∧ w' = w.alloc (.cells cs 5) := by
 subst hb
 exact among_ws c ws w cs n x hc hn hm hx

def signB (c : Int) : Bool := c == 91 || (c == 93 || (c == 123 || (c == 125 || (c == 44 || c == 58))))
def readL (l : List UInt8) (i : Nat) : Tk :=
 if i = l.length then .ok ⟨0, [], i, i⟩
 else if signB (bx l i) = true then .ok ⟨4, sub l i (i + 1), i, i + 1⟩
 else if bx l i = 110 then stands 3 l i (spelledL l i [110, 117, 108, 108])
 else if bx l i = 116 then stands 3 l i (spelledL l i [116, 114, 117, 101])
 else if bx l i = 102 then stands 3 l i (spelledL l i [102, 97, 108, 115, 101])
 else if bx l i = 45 ∨ digitB (bx l i) = true then stands 2 l i (numberL l i)
 else if bx l i = 34 then textL l i
 else .error (i + 1)

set_option maxRecDepth 100000 in
set_option maxHeartbeats 800000 in
theorem read_end (l : List UInt8) (v : Value) (w : World) (hB : Byt w v l) :
  Calls Tryz.prog 159 #[v, .int .i64 l.length] w fun r w' => r = .returned (tkV (.ok ⟨0, [], l.length, l.length⟩)) ∧ Below w.heap.size w w' := by
 obtain ⟨a, cap, rfl, _⟩ := hB.shape
 clear hB
 go_enter Tryz.func159, Tryz.ntmps159
 go_wp2
 refine bodyPost_ret (v := .tuple #[tokV ⟨0, [], l.length, l.length⟩, .nilIface]) ?_ rfl ?_
 all_goals first | (exact ⟨rfl, (by with_reducible repeat (first | exact Below.refl _ _ | refine bl_a ?_ _ | refine bl_s ?_ (by omega) _))⟩) | (simp [results, Tryz.results159, go_sem, tokV])

set_option maxRecDepth 100000 in
set_option maxHeartbeats 1600000 in
theorem read_sign (l : List UInt8) (i : Nat) (v : Value) (w : World) (hB : Byt w v l) (hi : i < l.length) (hs : signB (bx l i) = true) (hm : l.length ≤ 140737488351232) :
  Calls Tryz.prog 159 #[v, .int .i64 i] w fun r w' => r = .returned (tkV (.ok ⟨4, sub l i (i + 1), i, i + 1⟩)) ∧ Below w.heap.size w w' := by
 have hB1 : Byt (w.alloc (.cells #[.int .i64 0, .string ⟨#[]⟩, .int .i64 0, .int .i64 0] 120)) v l := Row.alloc hB _
 have hB2 : Byt ((w.alloc (.cells #[.int .i64 0, .string ⟨#[]⟩, .int .i64 0, .int .i64 0] 120)).alloc (.cells #[.int .u8 91, .int .u8 93, .int .u8 123, .int .u8 125, .int .u8 44, .int .u8 58] 5)) v l := Row.alloc hB1 _
 have hb0 : Below (w.alloc (.cells #[.int .i64 0, .string ⟨#[]⟩, .int .i64 0, .int .i64 0] 120)).heap.size (w.alloc (.cells #[.int .i64 0, .string ⟨#[]⟩, .int .i64 0, .int .i64 0] 120)) ((w.alloc (.cells #[.int .i64 0, .string ⟨#[]⟩, .int .i64 0, .int .i64 0] 120)).alloc (.cells #[.int .u8 91, .int .u8 93, .int .u8 123, .int .u8 125, .int .u8 44, .int .u8 58] 5)) := bl_a (Below.refl _ _) _
 have hiI : (i : Int) < (l.length : Int) := by omega
 have hne : ((i : Int) == (l.length : Int)) = false := beq_eq_false_iff_ne.2 (by omega)
 have hmI : (i : Int) ≤ 281474976710656 := by omega
 have am := among_at (bx l i) [91, 93, 123, 125, 44, 58] (w.alloc (.cells #[.int .i64 0, .string ⟨#[]⟩, .int .i64 0, .int .i64 0] 120)) (w.heap.size + 1) #[.int .u8 91, .int .u8 93, .int .u8 123, .int .u8 125, .int .u8 44, .int .u8 58] 6 true (by simp) rfl rfl (by decide) (by rw [← hs]; simp [signB])
 have g := fun w' (hb : Byt w' v l) => asItStands_any 4 l i (i + 1) v w' hb hi (by omega) hi
 rw [show ((i + 1 : Nat) : Int) = (i : Int) + 1 by omega] at g
 simp only [tokV] at g
 rw [show ((i + 1 : Nat) : Int) = (i : Int) + 1 by omega] at g
 obtain ⟨t, ht⟩ : ∃ t, sub l i (i + 1) = t := ⟨_, rfl⟩
 rw [ht] at g ⊢
 have HT : Hid (sub l i (i + 1) = t) := ht
 clear ht hs hm
 rcases hB with ⟨h, _⟩ | ⟨b, off, cap, rfl, hc, hm', hL⟩
 ·omega
 have hcell : (w.alloc (.cells #[.int .i64 0, .string ⟨#[]⟩, .int .i64 0, .int .i64 0] 120)).cell? ⟨b, off + i, none⟩ = some (.int .u8 (bx l i)) := by
  rw [World.cell?_alloc_past _ _ _ (cell_lt (hL.cell i hi))]; exact hL.cell i hi
 clear hL hm' hc
 generalize bx l i = c at *
 go_enter Tryz.func159, Tryz.ntmps159
 go_wp2_with (first | (go_at_call 163; with_reducible refine am.mono ?_; rintro r w' ⟨rfl, rfl⟩) | (go_at_call 175; refine (g _ hB2).mono ?_; rintro r w3 ⟨rfl, hb3⟩; obtain ⟨kc, kf, kz⟩ := keepT (bl_t hb0 hb3)))
 refine bodyPost_ret (v := .tuple #[tokV ⟨4, t, i, i + 1⟩, .nilIface]) ?_ rfl ?_
 all_goals first | (exact ⟨rfl, (by with_reducible repeat (first | exact Below.refl _ _ | refine bl_t ?_ (bl_t hb0 hb3) | refine bl_a ?_ _ | refine bl_s ?_ (by omega) _))⟩) | (simp [results, Tryz.results159, go_sem, tokV, kc])

set_option maxRecDepth 100000 in
set_option maxHeartbeats 1600000 in
theorem read_null_error (l : List UInt8) (i : Nat) (v : Value) (w : World) (hB : Byt w v l) (hi : i < l.length) (hk : bx l i = 110) (hm : l.length ≤ 140737488351232) (n : Nat) (hr : stands 3 l i (spelledL l i [110, 117, 108, 108]) = .error n) :
  Calls Tryz.prog 159 #[v, .int .i64 i] w fun r w' => r = .returned (tkV (.error n)) ∧ Below w.heap.size w w' := by
 have hB1 : Byt (w.alloc (.cells #[.int .i64 0, .string ⟨#[]⟩, .int .i64 0, .int .i64 0] 120)) v l := Row.alloc hB _
 have hB2 : Byt ((w.alloc (.cells #[.int .i64 0, .string ⟨#[]⟩, .int .i64 0, .int .i64 0] 120)).alloc (.cells #[.int .u8 91, .int .u8 93, .int .u8 123, .int .u8 125, .int .u8 44, .int .u8 58] 5)) v l := Row.alloc hB1 _
 have hb0 : Below (w.alloc (.cells #[.int .i64 0, .string ⟨#[]⟩, .int .i64 0, .int .i64 0] 120)).heap.size (w.alloc (.cells #[.int .i64 0, .string ⟨#[]⟩, .int .i64 0, .int .i64 0] 120)) ((w.alloc (.cells #[.int .i64 0, .string ⟨#[]⟩, .int .i64 0, .int .i64 0] 120)).alloc (.cells #[.int .u8 91, .int .u8 93, .int .u8 123, .int .u8 125, .int .u8 44, .int .u8 58] 5)) := bl_a (Below.refl _ _) _
 have hiI : (i : Int) < (l.length : Int) := by omega
 have hne : ((i : Int) == (l.length : Int)) = false := beq_eq_false_iff_ne.2 (by omega)
 have hmI : (i : Int) ≤ 281474976710656 := by omega
 have g := word_any l i v ⟨#[110, 117, 108, 108]⟩ _ hB2 hi (by omega) (by decide)
 rw [hr] at g
 simp only [tkV, tokV, errV] at g
 have am := among_at 110 [91, 93, 123, 125, 44, 58] (w.alloc (.cells #[.int .i64 0, .string ⟨#[]⟩, .int .i64 0, .int .i64 0] 120)) (w.heap.size + 1) #[.int .u8 91, .int .u8 93, .int .u8 123, .int .u8 125, .int .u8 44, .int .u8 58] 6 false (by simp) rfl rfl (by decide) (by decide)
 clear hr hm
 rcases hB with ⟨h, _⟩ | ⟨b, off, cap, rfl, hc, hm', hL⟩
 ·omega
 have hcell : (w.alloc (.cells #[.int .i64 0, .string ⟨#[]⟩, .int .i64 0, .int .i64 0] 120)).cell? ⟨b, off + i, none⟩ = some (.int .u8 (bx l i)) := by
  rw [World.cell?_alloc_past _ _ _ (cell_lt (hL.cell i hi))]; exact hL.cell i hi
 clear hL hm' hc
 rw [hk] at hcell
 clear hk
 go_enter Tryz.func159, Tryz.ntmps159
 go_wp2_with (first | (go_at_call 163; with_reducible refine am.mono ?_; rintro r w' ⟨rfl, rfl⟩) | (go_at_call 176; refine g.mono ?_; rintro r w3 ⟨rfl, hb3⟩; obtain ⟨kc, kf, kz⟩ := keepT (bl_t hb0 hb3)))
 refine bodyPost_ret (v := .tuple #[tokV ⟨0, [], 0, 0⟩, errV n]) ?_ rfl ?_
 all_goals first | (exact ⟨rfl, (by with_reducible repeat (first | exact Below.refl _ _ | refine bl_t ?_ (bl_t hb0 hb3) | refine bl_a ?_ _ | refine bl_s ?_ (by omega) _))⟩) | (simp [results, Tryz.results159, go_sem, tokV, errV, kc])

set_option maxRecDepth 100000 in
set_option maxHeartbeats 1600000 in
theorem read_null_ok (l : List UInt8) (i : Nat) (v : Value) (w : World) (hB : Byt w v l) (hi : i < l.length) (hk : bx l i = 110) (hm : l.length ≤ 140737488351232) (t : Tok) (hr : stands 3 l i (spelledL l i [110, 117, 108, 108]) = .ok t) :
  Calls Tryz.prog 159 #[v, .int .i64 i] w fun r w' => r = .returned (tkV (.ok t)) ∧ Below w.heap.size w w' := by
 have hB1 : Byt (w.alloc (.cells #[.int .i64 0, .string ⟨#[]⟩, .int .i64 0, .int .i64 0] 120)) v l := Row.alloc hB _
 have hB2 : Byt ((w.alloc (.cells #[.int .i64 0, .string ⟨#[]⟩, .int .i64 0, .int .i64 0] 120)).alloc (.cells #[.int .u8 91, .int .u8 93, .int .u8 123, .int .u8 125, .int .u8 44, .int .u8 58] 5)) v l := Row.alloc hB1 _
 have hb0 : Below (w.alloc (.cells #[.int .i64 0, .string ⟨#[]⟩, .int .i64 0, .int .i64 0] 120)).heap.size (w.alloc (.cells #[.int .i64 0, .string ⟨#[]⟩, .int .i64 0, .int .i64 0] 120)) ((w.alloc (.cells #[.int .i64 0, .string ⟨#[]⟩, .int .i64 0, .int .i64 0] 120)).alloc (.cells #[.int .u8 91, .int .u8 93, .int .u8 123, .int .u8 125, .int .u8 44, .int .u8 58] 5)) := bl_a (Below.refl _ _) _
 have hiI : (i : Int) < (l.length : Int) := by omega
 have hne : ((i : Int) == (l.length : Int)) = false := beq_eq_false_iff_ne.2 (by omega)
 have hmI : (i : Int) ≤ 281474976710656 := by omega
 have g := word_any l i v ⟨#[110, 117, 108, 108]⟩ _ hB2 hi (by omega) (by decide)
 rw [hr] at g
 simp only [tkV, tokV] at g
 have am := among_at 110 [91, 93, 123, 125, 44, 58] (w.alloc (.cells #[.int .i64 0, .string ⟨#[]⟩, .int .i64 0, .int .i64 0] 120)) (w.heap.size + 1) #[.int .u8 91, .int .u8 93, .int .u8 123, .int .u8 125, .int .u8 44, .int .u8 58] 6 false (by simp) rfl rfl (by decide) (by decide)
 clear hr hm
 rcases hB with ⟨h, _⟩ | ⟨b, off, cap, rfl, hc, hm', hL⟩
 ·omega
 have hcell : (w.alloc (.cells #[.int .i64 0, .string ⟨#[]⟩, .int .i64 0, .int .i64 0] 120)).cell? ⟨b, off + i, none⟩ = some (.int .u8 (bx l i)) := by
  rw [World.cell?_alloc_past _ _ _ (cell_lt (hL.cell i hi))]; exact hL.cell i hi
 clear hL hm' hc
 rw [hk] at hcell
 clear hk
 go_enter Tryz.func159, Tryz.ntmps159
 go_wp2_with (first | (go_at_call 163; with_reducible refine am.mono ?_; rintro r w' ⟨rfl, rfl⟩) | (go_at_call 176; refine g.mono ?_; rintro r w3 ⟨rfl, hb3⟩; obtain ⟨kc, kf, kz⟩ := keepT (bl_t hb0 hb3)))
 refine bodyPost_ret (v := .tuple #[tokV t, .nilIface]) ?_ rfl ?_
 all_goals first | (exact ⟨rfl, (by with_reducible repeat (first | exact Below.refl _ _ | refine bl_t ?_ (bl_t hb0 hb3) | refine bl_a ?_ _ | refine bl_s ?_ (by omega) _))⟩) | (simp [results, Tryz.results159, go_sem, tokV, kc])

set_option maxRecDepth 100000 in
set_option maxHeartbeats 1600000 in
theorem read_true_error (l : List UInt8) (i : Nat) (v : Value) (w : World) (hB : Byt w v l) (hi : i < l.length) (hk : bx l i = 116) (hm : l.length ≤ 140737488351232) (n : Nat) (hr : stands 3 l i (spelledL l i [116, 114, 117, 101]) = .error n) :
  Calls Tryz.prog 159 #[v, .int .i64 i] w fun r w' => r = .returned (tkV (.error n)) ∧ Below w.heap.size w w' := by
 have hB1 : Byt (w.alloc (.cells #[.int .i64 0, .string ⟨#[]⟩, .int .i64 0, .int .i64 0] 120)) v l := Row.alloc hB _
 have hB2 : Byt ((w.alloc (.cells #[.int .i64 0, .string ⟨#[]⟩, .int .i64 0, .int .i64 0] 120)).alloc (.cells #[.int .u8 91, .int .u8 93, .int .u8 123, .int .u8 125, .int .u8 44, .int .u8 58] 5)) v l := Row.alloc hB1 _
 have hb0 : Below (w.alloc (.cells #[.int .i64 0, .string ⟨#[]⟩, .int .i64 0, .int .i64 0] 120)).heap.size (w.alloc (.cells #[.int .i64 0, .string ⟨#[]⟩, .int .i64 0, .int .i64 0] 120)) ((w.alloc (.cells #[.int .i64 0, .string ⟨#[]⟩, .int .i64 0, .int .i64 0] 120)).alloc (.cells #[.int .u8 91, .int .u8 93, .int .u8 123, .int .u8 125, .int .u8 44, .int .u8 58] 5)) := bl_a (Below.refl _ _) _
 have hiI : (i : Int) < (l.length : Int) := by omega
 have hne : ((i : Int) == (l.length : Int)) = false := beq_eq_false_iff_ne.2 (by omega)
 have hmI : (i : Int) ≤ 281474976710656 := by omega
 have g := word_any l i v ⟨#[116, 114, 117, 101]⟩ _ hB2 hi (by omega) (by decide)
 rw [hr] at g
 simp only [tkV, tokV, errV] at g
 have am := among_at 116 [91, 93, 123, 125, 44, 58] (w.alloc (.cells #[.int .i64 0, .string ⟨#[]⟩, .int .i64 0, .int .i64 0] 120)) (w.heap.size + 1) #[.int .u8 91, .int .u8 93, .int .u8 123, .int .u8 125, .int .u8 44, .int .u8 58] 6 false (by simp) rfl rfl (by decide) (by decide)
 clear hr hm
 rcases hB with ⟨h, _⟩ | ⟨b, off, cap, rfl, hc, hm', hL⟩
 ·omega
 have hcell : (w.alloc (.cells #[.int .i64 0, .string ⟨#[]⟩, .int .i64 0, .int .i64 0] 120)).cell? ⟨b, off + i, none⟩ = some (.int .u8 (bx l i)) := by
  rw [World.cell?_alloc_past _ _ _ (cell_lt (hL.cell i hi))]; exact hL.cell i hi
 clear hL hm' hc
 rw [hk] at hcell
 clear hk
 go_enter Tryz.func159, Tryz.ntmps159
 go_wp2_with (first | (go_at_call 163; with_reducible refine am.mono ?_; rintro r w' ⟨rfl, rfl⟩) | (go_at_call 176; refine g.mono ?_; rintro r w3 ⟨rfl, hb3⟩; obtain ⟨kc, kf, kz⟩ := keepT (bl_t hb0 hb3)))
 refine bodyPost_ret (v := .tuple #[tokV ⟨0, [], 0, 0⟩, errV n]) ?_ rfl ?_
 all_goals first | (exact ⟨rfl, (by with_reducible repeat (first | exact Below.refl _ _ | refine bl_t ?_ (bl_t hb0 hb3) | refine bl_a ?_ _ | refine bl_s ?_ (by omega) _))⟩) | (simp [results, Tryz.results159, go_sem, tokV, errV, kc])

set_option maxRecDepth 100000 in
set_option maxHeartbeats 1600000 in
theorem read_true_ok (l : List UInt8) (i : Nat) (v : Value) (w : World) (hB : Byt w v l) (hi : i < l.length) (hk : bx l i = 116) (hm : l.length ≤ 140737488351232) (t : Tok) (hr : stands 3 l i (spelledL l i [116, 114, 117, 101]) = .ok t) :
  Calls Tryz.prog 159 #[v, .int .i64 i] w fun r w' => r = .returned (tkV (.ok t)) ∧ Below w.heap.size w w' := by
 have hB1 : Byt (w.alloc (.cells #[.int .i64 0, .string ⟨#[]⟩, .int .i64 0, .int .i64 0] 120)) v l := Row.alloc hB _
 have hB2 : Byt ((w.alloc (.cells #[.int .i64 0, .string ⟨#[]⟩, .int .i64 0, .int .i64 0] 120)).alloc (.cells #[.int .u8 91, .int .u8 93, .int .u8 123, .int .u8 125, .int .u8 44, .int .u8 58] 5)) v l := Row.alloc hB1 _
 have hb0 : Below (w.alloc (.cells #[.int .i64 0, .string ⟨#[]⟩, .int .i64 0, .int .i64 0] 120)).heap.size (w.alloc (.cells #[.int .i64 0, .string ⟨#[]⟩, .int .i64 0, .int .i64 0] 120)) ((w.alloc (.cells #[.int .i64 0, .string ⟨#[]⟩, .int .i64 0, .int .i64 0] 120)).alloc (.cells #[.int .u8 91, .int .u8 93, .int .u8 123, .int .u8 125, .int .u8 44, .int .u8 58] 5)) := bl_a (Below.refl _ _) _
 have hiI : (i : Int) < (l.length : Int) := by omega
 have hne : ((i : Int) == (l.length : Int)) = false := beq_eq_false_iff_ne.2 (by omega)
 have hmI : (i : Int) ≤ 281474976710656 := by omega
 have g := word_any l i v ⟨#[116, 114, 117, 101]⟩ _ hB2 hi (by omega) (by decide)
 rw [hr] at g
 simp only [tkV, tokV] at g
 have am := among_at 116 [91, 93, 123, 125, 44, 58] (w.alloc (.cells #[.int .i64 0, .string ⟨#[]⟩, .int .i64 0, .int .i64 0] 120)) (w.heap.size + 1) #[.int .u8 91, .int .u8 93, .int .u8 123, .int .u8 125, .int .u8 44, .int .u8 58] 6 false (by simp) rfl rfl (by decide) (by decide)
 clear hr hm
 rcases hB with ⟨h, _⟩ | ⟨b, off, cap, rfl, hc, hm', hL⟩
 ·omega
 have hcell : (w.alloc (.cells #[.int .i64 0, .string ⟨#[]⟩, .int .i64 0, .int .i64 0] 120)).cell? ⟨b, off + i, none⟩ = some (.int .u8 (bx l i)) := by
  rw [World.cell?_alloc_past _ _ _ (cell_lt (hL.cell i hi))]; exact hL.cell i hi
 clear hL hm' hc
 rw [hk] at hcell
 clear hk
 go_enter Tryz.func159, Tryz.ntmps159
 go_wp2_with (first | (go_at_call 163; with_reducible refine am.mono ?_; rintro r w' ⟨rfl, rfl⟩) | (go_at_call 176; refine g.mono ?_; rintro r w3 ⟨rfl, hb3⟩; obtain ⟨kc, kf, kz⟩ := keepT (bl_t hb0 hb3)))
 refine bodyPost_ret (v := .tuple #[tokV t, .nilIface]) ?_ rfl ?_
 all_goals first | (exact ⟨rfl, (by with_reducible repeat (first | exact Below.refl _ _ | refine bl_t ?_ (bl_t hb0 hb3) | refine bl_a ?_ _ | refine bl_s ?_ (by omega) _))⟩) | (simp [results, Tryz.results159, go_sem, tokV, kc])

set_option maxRecDepth 100000 in
set_option maxHeartbeats 1600000 in
theorem read_false_error (l : List UInt8) (i : Nat) (v : Value) (w : World) (hB : Byt w v l) (hi : i < l.length) (hk : bx l i = 102) (hm : l.length ≤ 140737488351232) (n : Nat) (hr : stands 3 l i (spelledL l i [102, 97, 108, 115, 101]) = .error n) :
  Calls Tryz.prog 159 #[v, .int .i64 i] w fun r w' => r = .returned (tkV (.error n)) ∧ Below w.heap.size w w' := by
 have hB1 : Byt (w.alloc (.cells #[.int .i64 0, .string ⟨#[]⟩, .int .i64 0, .int .i64 0] 120)) v l := Row.alloc hB _
 have hB2 : Byt ((w.alloc (.cells #[.int .i64 0, .string ⟨#[]⟩, .int .i64 0, .int .i64 0] 120)).alloc (.cells #[.int .u8 91, .int .u8 93, .int .u8 123, .int .u8 125, .int .u8 44, .int .u8 58] 5)) v l := Row.alloc hB1 _
 have hb0 : Below (w.alloc (.cells #[.int .i64 0, .string ⟨#[]⟩, .int .i64 0, .int .i64 0] 120)).heap.size (w.alloc (.cells #[.int .i64 0, .string ⟨#[]⟩, .int .i64 0, .int .i64 0] 120)) ((w.alloc (.cells #[.int .i64 0, .string ⟨#[]⟩, .int .i64 0, .int .i64 0] 120)).alloc (.cells #[.int .u8 91, .int .u8 93, .int .u8 123, .int .u8 125, .int .u8 44, .int .u8 58] 5)) := bl_a (Below.refl _ _) _
 have hiI : (i : Int) < (l.length : Int) := by omega
 have hne : ((i : Int) == (l.length : Int)) = false := beq_eq_false_iff_ne.2 (by omega)
 have hmI : (i : Int) ≤ 281474976710656 := by omega
 have g := word_any l i v ⟨#[102, 97, 108, 115, 101]⟩ _ hB2 hi (by omega) (by decide)
 rw [hr] at g
 simp only [tkV, tokV, errV] at g
 have am := among_at 102 [91, 93, 123, 125, 44, 58] (w.alloc (.cells #[.int .i64 0, .string ⟨#[]⟩, .int .i64 0, .int .i64 0] 120)) (w.heap.size + 1) #[.int .u8 91, .int .u8 93, .int .u8 123, .int .u8 125, .int .u8 44, .int .u8 58] 6 false (by simp) rfl rfl (by decide) (by decide)
 clear hr hm
 rcases hB with ⟨h, _⟩ | ⟨b, off, cap, rfl, hc, hm', hL⟩
 ·omega
 have hcell : (w.alloc (.cells #[.int .i64 0, .string ⟨#[]⟩, .int .i64 0, .int .i64 0] 120)).cell? ⟨b, off + i, none⟩ = some (.int .u8 (bx l i)) := by
  rw [World.cell?_alloc_past _ _ _ (cell_lt (hL.cell i hi))]; exact hL.cell i hi
 clear hL hm' hc
 rw [hk] at hcell
 clear hk
 go_enter Tryz.func159, Tryz.ntmps159
 go_wp2_with (first | (go_at_call 163; with_reducible refine am.mono ?_; rintro r w' ⟨rfl, rfl⟩) | (go_at_call 176; refine g.mono ?_; rintro r w3 ⟨rfl, hb3⟩; obtain ⟨kc, kf, kz⟩ := keepT (bl_t hb0 hb3)))
 refine bodyPost_ret (v := .tuple #[tokV ⟨0, [], 0, 0⟩, errV n]) ?_ rfl ?_
 all_goals first | (exact ⟨rfl, (by with_reducible repeat (first | exact Below.refl _ _ | refine bl_t ?_ (bl_t hb0 hb3) | refine bl_a ?_ _ | refine bl_s ?_ (by omega) _))⟩) | (simp [results, Tryz.results159, go_sem, tokV, errV, kc])

set_option maxRecDepth 100000 in
set_option maxHeartbeats 1600000 in
theorem read_false_ok (l : List UInt8) (i : Nat) (v : Value) (w : World) (hB : Byt w v l) (hi : i < l.length) (hk : bx l i = 102) (hm : l.length ≤ 140737488351232) (t : Tok) (hr : stands 3 l i (spelledL l i [102, 97, 108, 115, 101]) = .ok t) :
  Calls Tryz.prog 159 #[v, .int .i64 i] w fun r w' => r = .returned (tkV (.ok t)) ∧ Below w.heap.size w w' := by
 have hB1 : Byt (w.alloc (.cells #[.int .i64 0, .string ⟨#[]⟩, .int .i64 0, .int .i64 0] 120)) v l := Row.alloc hB _
 have hB2 : Byt ((w.alloc (.cells #[.int .i64 0, .string ⟨#[]⟩, .int .i64 0, .int .i64 0] 120)).alloc (.cells #[.int .u8 91, .int .u8 93, .int .u8 123, .int .u8 125, .int .u8 44, .int .u8 58] 5)) v l := Row.alloc hB1 _
 have hb0 : Below (w.alloc (.cells #[.int .i64 0, .string ⟨#[]⟩, .int .i64 0, .int .i64 0] 120)).heap.size (w.alloc (.cells #[.int .i64 0, .string ⟨#[]⟩, .int .i64 0, .int .i64 0] 120)) ((w.alloc (.cells #[.int .i64 0, .string ⟨#[]⟩, .int .i64 0, .int .i64 0] 120)).alloc (.cells #[.int .u8 91, .int .u8 93, .int .u8 123, .int .u8 125, .int .u8 44, .int .u8 58] 5)) := bl_a (Below.refl _ _) _
 have hiI : (i : Int) < (l.length : Int) := by omega
 have hne : ((i : Int) == (l.length : Int)) = false := beq_eq_false_iff_ne.2 (by omega)
 have hmI : (i : Int) ≤ 281474976710656 := by omega
 have g := word_any l i v ⟨#[102, 97, 108, 115, 101]⟩ _ hB2 hi (by omega) (by decide)
 rw [hr] at g
 simp only [tkV, tokV] at g
 have am := among_at 102 [91, 93, 123, 125, 44, 58] (w.alloc (.cells #[.int .i64 0, .string ⟨#[]⟩, .int .i64 0, .int .i64 0] 120)) (w.heap.size + 1) #[.int .u8 91, .int .u8 93, .int .u8 123, .int .u8 125, .int .u8 44, .int .u8 58] 6 false (by simp) rfl rfl (by decide) (by decide)
 clear hr hm
 rcases hB with ⟨h, _⟩ | ⟨b, off, cap, rfl, hc, hm', hL⟩
 ·omega
 have hcell : (w.alloc (.cells #[.int .i64 0, .string ⟨#[]⟩, .int .i64 0, .int .i64 0] 120)).cell? ⟨b, off + i, none⟩ = some (.int .u8 (bx l i)) := by
  rw [World.cell?_alloc_past _ _ _ (cell_lt (hL.cell i hi))]; exact hL.cell i hi
 clear hL hm' hc
 rw [hk] at hcell
 clear hk
 go_enter Tryz.func159, Tryz.ntmps159
 go_wp2_with (first | (go_at_call 163; with_reducible refine am.mono ?_; rintro r w' ⟨rfl, rfl⟩) | (go_at_call 176; refine g.mono ?_; rintro r w3 ⟨rfl, hb3⟩; obtain ⟨kc, kf, kz⟩ := keepT (bl_t hb0 hb3)))
 refine bodyPost_ret (v := .tuple #[tokV t, .nilIface]) ?_ rfl ?_
 all_goals first | (exact ⟨rfl, (by with_reducible repeat (first | exact Below.refl _ _ | refine bl_t ?_ (bl_t hb0 hb3) | refine bl_a ?_ _ | refine bl_s ?_ (by omega) _))⟩) | (simp [results, Tryz.results159, go_sem, tokV, kc])

set_option maxRecDepth 100000 in
set_option maxHeartbeats 1600000 in
theorem read_minus_error (l : List UInt8) (i : Nat) (v : Value) (w : World) (hB : Byt w v l) (hi : i < l.length) (hk : bx l i = 45) (hm : l.length ≤ 140737488351232) (n : Nat) (hr : stands 2 l i (numberL l i) = .error n) :
  Calls Tryz.prog 159 #[v, .int .i64 i] w fun r w' => r = .returned (tkV (.error n)) ∧ Below w.heap.size w w' := by
 have hB1 : Byt (w.alloc (.cells #[.int .i64 0, .string ⟨#[]⟩, .int .i64 0, .int .i64 0] 120)) v l := Row.alloc hB _
 have hB2 : Byt ((w.alloc (.cells #[.int .i64 0, .string ⟨#[]⟩, .int .i64 0, .int .i64 0] 120)).alloc (.cells #[.int .u8 91, .int .u8 93, .int .u8 123, .int .u8 125, .int .u8 44, .int .u8 58] 5)) v l := Row.alloc hB1 _
 have hb0 : Below (w.alloc (.cells #[.int .i64 0, .string ⟨#[]⟩, .int .i64 0, .int .i64 0] 120)).heap.size (w.alloc (.cells #[.int .i64 0, .string ⟨#[]⟩, .int .i64 0, .int .i64 0] 120)) ((w.alloc (.cells #[.int .i64 0, .string ⟨#[]⟩, .int .i64 0, .int .i64 0] 120)).alloc (.cells #[.int .u8 91, .int .u8 93, .int .u8 123, .int .u8 125, .int .u8 44, .int .u8 58] 5)) := bl_a (Below.refl _ _) _
 have hiI : (i : Int) < (l.length : Int) := by omega
 have hne : ((i : Int) == (l.length : Int)) = false := beq_eq_false_iff_ne.2 (by omega)
 have hmI : (i : Int) ≤ 281474976710656 := by omega
 have g := number_any l i v _ hB2 hi (by omega)
 rw [hr] at g
 simp only [tkV, tokV, errV] at g
 have am := among_at 45 [91, 93, 123, 125, 44, 58] (w.alloc (.cells #[.int .i64 0, .string ⟨#[]⟩, .int .i64 0, .int .i64 0] 120)) (w.heap.size + 1) #[.int .u8 91, .int .u8 93, .int .u8 123, .int .u8 125, .int .u8 44, .int .u8 58] 6 false (by simp) rfl rfl (by decide) (by decide)
 clear hr hm
 rcases hB with ⟨h, _⟩ | ⟨b, off, cap, rfl, hc, hm', hL⟩
 ·omega
 have hcell : (w.alloc (.cells #[.int .i64 0, .string ⟨#[]⟩, .int .i64 0, .int .i64 0] 120)).cell? ⟨b, off + i, none⟩ = some (.int .u8 (bx l i)) := by
  rw [World.cell?_alloc_past _ _ _ (cell_lt (hL.cell i hi))]; exact hL.cell i hi
 clear hL hm' hc
 rw [hk] at hcell
 clear hk
 go_enter Tryz.func159, Tryz.ntmps159
 go_wp2_with (first | (go_at_call 163; with_reducible refine am.mono ?_; rintro r w' ⟨rfl, rfl⟩) | (go_at_call 178; refine g.mono ?_; rintro r w3 ⟨rfl, hb3⟩; obtain ⟨kc, kf, kz⟩ := keepT (bl_t hb0 hb3)))
 refine bodyPost_ret (v := .tuple #[tokV ⟨0, [], 0, 0⟩, errV n]) ?_ rfl ?_
 all_goals first | (exact ⟨rfl, (by with_reducible repeat (first | exact Below.refl _ _ | refine bl_t ?_ (bl_t hb0 hb3) | refine bl_a ?_ _ | refine bl_s ?_ (by omega) _))⟩) | (simp [results, Tryz.results159, go_sem, tokV, errV, kc])

set_option maxRecDepth 100000 in
set_option maxHeartbeats 1600000 in
theorem read_minus_ok (l : List UInt8) (i : Nat) (v : Value) (w : World) (hB : Byt w v l) (hi : i < l.length) (hk : bx l i = 45) (hm : l.length ≤ 140737488351232) (t : Tok) (hr : stands 2 l i (numberL l i) = .ok t) :
  Calls Tryz.prog 159 #[v, .int .i64 i] w fun r w' => r = .returned (tkV (.ok t)) ∧ Below w.heap.size w w' := by
 have hB1 : Byt (w.alloc (.cells #[.int .i64 0, .string ⟨#[]⟩, .int .i64 0, .int .i64 0] 120)) v l := Row.alloc hB _
 have hB2 : Byt ((w.alloc (.cells #[.int .i64 0, .string ⟨#[]⟩, .int .i64 0, .int .i64 0] 120)).alloc (.cells #[.int .u8 91, .int .u8 93, .int .u8 123, .int .u8 125, .int .u8 44, .int .u8 58] 5)) v l := Row.alloc hB1 _
 have hb0 : Below (w.alloc (.cells #[.int .i64 0, .string ⟨#[]⟩, .int .i64 0, .int .i64 0] 120)).heap.size (w.alloc (.cells #[.int .i64 0, .string ⟨#[]⟩, .int .i64 0, .int .i64 0] 120)) ((w.alloc (.cells #[.int .i64 0, .string ⟨#[]⟩, .int .i64 0, .int .i64 0] 120)).alloc (.cells #[.int .u8 91, .int .u8 93, .int .u8 123, .int .u8 125, .int .u8 44, .int .u8 58] 5)) := bl_a (Below.refl _ _) _
 have hiI : (i : Int) < (l.length : Int) := by omega
 have hne : ((i : Int) == (l.length : Int)) = false := beq_eq_false_iff_ne.2 (by omega)
 have hmI : (i : Int) ≤ 281474976710656 := by omega
 have g := number_any l i v _ hB2 hi (by omega)
 rw [hr] at g
 simp only [tkV, tokV] at g
 have am := among_at 45 [91, 93, 123, 125, 44, 58] (w.alloc (.cells #[.int .i64 0, .string ⟨#[]⟩, .int .i64 0, .int .i64 0] 120)) (w.heap.size + 1) #[.int .u8 91, .int .u8 93, .int .u8 123, .int .u8 125, .int .u8 44, .int .u8 58] 6 false (by simp) rfl rfl (by decide) (by decide)
 clear hr hm
 rcases hB with ⟨h, _⟩ | ⟨b, off, cap, rfl, hc, hm', hL⟩
 ·omega
 have hcell : (w.alloc (.cells #[.int .i64 0, .string ⟨#[]⟩, .int .i64 0, .int .i64 0] 120)).cell? ⟨b, off + i, none⟩ = some (.int .u8 (bx l i)) := by
  rw [World.cell?_alloc_past _ _ _ (cell_lt (hL.cell i hi))]; exact hL.cell i hi
 clear hL hm' hc
 rw [hk] at hcell
 clear hk
 go_enter Tryz.func159, Tryz.ntmps159
 go_wp2_with (first | (go_at_call 163; with_reducible refine am.mono ?_; rintro r w' ⟨rfl, rfl⟩) | (go_at_call 178; refine g.mono ?_; rintro r w3 ⟨rfl, hb3⟩; obtain ⟨kc, kf, kz⟩ := keepT (bl_t hb0 hb3)))
 refine bodyPost_ret (v := .tuple #[tokV t, .nilIface]) ?_ rfl ?_
 all_goals first | (exact ⟨rfl, (by with_reducible repeat (first | exact Below.refl _ _ | refine bl_t ?_ (bl_t hb0 hb3) | refine bl_a ?_ _ | refine bl_s ?_ (by omega) _))⟩) | (simp [results, Tryz.results159, go_sem, tokV, kc])

set_option maxRecDepth 100000 in
set_option maxHeartbeats 1600000 in
theorem read_digit_error (l : List UInt8) (i : Nat) (v : Value) (w : World) (hB : Byt w v l) (hi : i < l.length) (h0 : 48 ≤ bx l i) (h9 : bx l i ≤ 57) (hm : l.length ≤ 140737488351232) (n : Nat) (hr : stands 2 l i (numberL l i) = .error n) :
  Calls Tryz.prog 159 #[v, .int .i64 i] w fun r w' => r = .returned (tkV (.error n)) ∧ Below w.heap.size w w' := by
 have hB1 : Byt (w.alloc (.cells #[.int .i64 0, .string ⟨#[]⟩, .int .i64 0, .int .i64 0] 120)) v l := Row.alloc hB _
 have hB2 : Byt ((w.alloc (.cells #[.int .i64 0, .string ⟨#[]⟩, .int .i64 0, .int .i64 0] 120)).alloc (.cells #[.int .u8 91, .int .u8 93, .int .u8 123, .int .u8 125, .int .u8 44, .int .u8 58] 5)) v l := Row.alloc hB1 _
 have hb0 : Below (w.alloc (.cells #[.int .i64 0, .string ⟨#[]⟩, .int .i64 0, .int .i64 0] 120)).heap.size (w.alloc (.cells #[.int .i64 0, .string ⟨#[]⟩, .int .i64 0, .int .i64 0] 120)) ((w.alloc (.cells #[.int .i64 0, .string ⟨#[]⟩, .int .i64 0, .int .i64 0] 120)).alloc (.cells #[.int .u8 91, .int .u8 93, .int .u8 123, .int .u8 125, .int .u8 44, .int .u8 58] 5)) := bl_a (Below.refl _ _) _
 have hiI : (i : Int) < (l.length : Int) := by omega
 have hne : ((i : Int) == (l.length : Int)) = false := beq_eq_false_iff_ne.2 (by omega)
 have hmI : (i : Int) ≤ 281474976710656 := by omega
 have g := number_any l i v _ hB2 hi (by omega)
 rw [hr] at g
 simp only [tkV, tokV, errV] at g
 have am := among_at (bx l i) [91, 93, 123, 125, 44, 58] (w.alloc (.cells #[.int .i64 0, .string ⟨#[]⟩, .int .i64 0, .int .i64 0] 120)) (w.heap.size + 1) #[.int .u8 91, .int .u8 93, .int .u8 123, .int .u8 125, .int .u8 44, .int .u8 58] 6 false (by simp) rfl rfl (by decide) (by simp; omega)
 have n110 : (bx l i == 110) = false := beq_eq_false_iff_ne.2 (by omega)
 have n116 : (bx l i == 116) = false := beq_eq_false_iff_ne.2 (by omega)
 have n102 : (bx l i == 102) = false := beq_eq_false_iff_ne.2 (by omega)
 have n45 : (bx l i == 45) = false := beq_eq_false_iff_ne.2 (by omega)
 have n34 : (bx l i == 34) = false := beq_eq_false_iff_ne.2 (by omega)
 have gd := isDigit_eq (bx l i)
 rw [show digitB (bx l i) = true by simp [digitB]; omega] at gd
 clear hr hm h0 h9
 rcases hB with ⟨h, _⟩ | ⟨b, off, cap, rfl, hc, hm', hL⟩
 ·omega
 have hcell : (w.alloc (.cells #[.int .i64 0, .string ⟨#[]⟩, .int .i64 0, .int .i64 0] 120)).cell? ⟨b, off + i, none⟩ = some (.int .u8 (bx l i)) := by
  rw [World.cell?_alloc_past _ _ _ (cell_lt (hL.cell i hi))]; exact hL.cell i hi
 clear hL hm' hc
 generalize bx l i = c at *
 go_enter Tryz.func159, Tryz.ntmps159
 go_wp2_with (first | (go_at_call 163; with_reducible refine am.mono ?_; rintro r w' ⟨rfl, rfl⟩) | (go_at_call 177; refine (gd _).mono ?_; rintro r w' ⟨rfl, rfl⟩) | (go_at_call 178; refine g.mono ?_; rintro r w3 ⟨rfl, hb3⟩; obtain ⟨kc, kf, kz⟩ := keepT (bl_t hb0 hb3)))
 refine bodyPost_ret (v := .tuple #[tokV ⟨0, [], 0, 0⟩, errV n]) ?_ rfl ?_
 all_goals first | (exact ⟨rfl, (by with_reducible repeat (first | exact Below.refl _ _ | refine bl_t ?_ (bl_t hb0 hb3) | refine bl_a ?_ _ | refine bl_s ?_ (by omega) _))⟩) | (simp [results, Tryz.results159, go_sem, tokV, errV, kc])

set_option maxRecDepth 100000 in
set_option maxHeartbeats 1600000 in
theorem read_digit_ok (l : List UInt8) (i : Nat) (v : Value) (w : World) (hB : Byt w v l) (hi : i < l.length) (h0 : 48 ≤ bx l i) (h9 : bx l i ≤ 57) (hm : l.length ≤ 140737488351232) (t : Tok) (hr : stands 2 l i (numberL l i) = .ok t) :
  Calls Tryz.prog 159 #[v, .int .i64 i] w fun r w' => r = .returned (tkV (.ok t)) ∧ Below w.heap.size w w' := by
 have hB1 : Byt (w.alloc (.cells #[.int .i64 0, .string ⟨#[]⟩, .int .i64 0, .int .i64 0] 120)) v l := Row.alloc hB _
 have hB2 : Byt ((w.alloc (.cells #[.int .i64 0, .string ⟨#[]⟩, .int .i64 0, .int .i64 0] 120)).alloc (.cells #[.int .u8 91, .int .u8 93, .int .u8 123, .int .u8 125, .int .u8 44, .int .u8 58] 5)) v l := Row.alloc hB1 _
 have hb0 : Below (w.alloc (.cells #[.int .i64 0, .string ⟨#[]⟩, .int .i64 0, .int .i64 0] 120)).heap.size (w.alloc (.cells #[.int .i64 0, .string ⟨#[]⟩, .int .i64 0, .int .i64 0] 120)) ((w.alloc (.cells #[.int .i64 0, .string ⟨#[]⟩, .int .i64 0, .int .i64 0] 120)).alloc (.cells #[.int .u8 91, .int .u8 93, .int .u8 123, .int .u8 125, .int .u8 44, .int .u8 58] 5)) := bl_a (Below.refl _ _) _
 have hiI : (i : Int) < (l.length : Int) := by omega
 have hne : ((i : Int) == (l.length : Int)) = false := beq_eq_false_iff_ne.2 (by omega)
 have hmI : (i : Int) ≤ 281474976710656 := by omega
 have g := number_any l i v _ hB2 hi (by omega)
 rw [hr] at g
 simp only [tkV, tokV] at g
 have am := among_at (bx l i) [91, 93, 123, 125, 44, 58] (w.alloc (.cells #[.int .i64 0, .string ⟨#[]⟩, .int .i64 0, .int .i64 0] 120)) (w.heap.size + 1) #[.int .u8 91, .int .u8 93, .int .u8 123, .int .u8 125, .int .u8 44, .int .u8 58] 6 false (by simp) rfl rfl (by decide) (by simp; omega)
 have n110 : (bx l i == 110) = false := beq_eq_false_iff_ne.2 (by omega)
 have n116 : (bx l i == 116) = false := beq_eq_false_iff_ne.2 (by omega)
 have n102 : (bx l i == 102) = false := beq_eq_false_iff_ne.2 (by omega)
 have n45 : (bx l i == 45) = false := beq_eq_false_iff_ne.2 (by omega)
 have n34 : (bx l i == 34) = false := beq_eq_false_iff_ne.2 (by omega)
 have gd := isDigit_eq (bx l i)
 rw [show digitB (bx l i) = true by simp [digitB]; omega] at gd
 clear hr hm h0 h9
 rcases hB with ⟨h, _⟩ | ⟨b, off, cap, rfl, hc, hm', hL⟩
 ·omega
 have hcell : (w.alloc (.cells #[.int .i64 0, .string ⟨#[]⟩, .int .i64 0, .int .i64 0] 120)).cell? ⟨b, off + i, none⟩ = some (.int .u8 (bx l i)) := by
  rw [World.cell?_alloc_past _ _ _ (cell_lt (hL.cell i hi))]; exact hL.cell i hi
 clear hL hm' hc
 generalize bx l i = c at *
 go_enter Tryz.func159, Tryz.ntmps159
 go_wp2_with (first | (go_at_call 163; with_reducible refine am.mono ?_; rintro r w' ⟨rfl, rfl⟩) | (go_at_call 177; refine (gd _).mono ?_; rintro r w' ⟨rfl, rfl⟩) | (go_at_call 178; refine g.mono ?_; rintro r w3 ⟨rfl, hb3⟩; obtain ⟨kc, kf, kz⟩ := keepT (bl_t hb0 hb3)))
 refine bodyPost_ret (v := .tuple #[tokV t, .nilIface]) ?_ rfl ?_
 all_goals first | (exact ⟨rfl, (by with_reducible repeat (first | exact Below.refl _ _ | refine bl_t ?_ (bl_t hb0 hb3) | refine bl_a ?_ _ | refine bl_s ?_ (by omega) _))⟩) | (simp [results, Tryz.results159, go_sem, tokV, kc])

set_option maxRecDepth 100000 in
set_option maxHeartbeats 1600000 in
theorem read_text_error (l : List UInt8) (i : Nat) (v : Value) (w : World) (hB : Byt w v l) (hi : i < l.length) (hk : bx l i = 34) (hm : l.length ≤ 140737488351232) (hT : Tab w) (n : Nat) (hr : textL l i = .error n) :
  Calls Tryz.prog 159 #[v, .int .i64 i] w fun r w' => r = .returned (tkV (.error n)) ∧ Below w.heap.size w w' := by
 have hB1 : Byt (w.alloc (.cells #[.int .i64 0, .string ⟨#[]⟩, .int .i64 0, .int .i64 0] 120)) v l := Row.alloc hB _
 have hB2 : Byt ((w.alloc (.cells #[.int .i64 0, .string ⟨#[]⟩, .int .i64 0, .int .i64 0] 120)).alloc (.cells #[.int .u8 91, .int .u8 93, .int .u8 123, .int .u8 125, .int .u8 44, .int .u8 58] 5)) v l := Row.alloc hB1 _
 have hb0 : Below (w.alloc (.cells #[.int .i64 0, .string ⟨#[]⟩, .int .i64 0, .int .i64 0] 120)).heap.size (w.alloc (.cells #[.int .i64 0, .string ⟨#[]⟩, .int .i64 0, .int .i64 0] 120)) ((w.alloc (.cells #[.int .i64 0, .string ⟨#[]⟩, .int .i64 0, .int .i64 0] 120)).alloc (.cells #[.int .u8 91, .int .u8 93, .int .u8 123, .int .u8 125, .int .u8 44, .int .u8 58] 5)) := bl_a (Below.refl _ _) _
 have hiI : (i : Int) < (l.length : Int) := by omega
 have hne : ((i : Int) == (l.length : Int)) = false := beq_eq_false_iff_ne.2 (by omega)
 have hmI : (i : Int) ≤ 281474976710656 := by omega
 have hT2 : Tab ((w.alloc (.cells #[.int .i64 0, .string ⟨#[]⟩, .int .i64 0, .int .i64 0] 120)).alloc (.cells #[.int .u8 91, .int .u8 93, .int .u8 123, .int .u8 125, .int .u8 44, .int .u8 58] 5)) := hT.below (bl_a (bl_a (Below.refl _ _) _) _)
 have g := text_any l i v _ hT2 hB2 hi hm
 rw [hr] at g
 simp only [tkV, tokV, errV] at g
 have am := among_at 34 [91, 93, 123, 125, 44, 58] (w.alloc (.cells #[.int .i64 0, .string ⟨#[]⟩, .int .i64 0, .int .i64 0] 120)) (w.heap.size + 1) #[.int .u8 91, .int .u8 93, .int .u8 123, .int .u8 125, .int .u8 44, .int .u8 58] 6 false (by simp) rfl rfl (by decide) (by decide)
 have gd := isDigit_eq 34
 rw [show digitB 34 = false from rfl] at gd
 clear hr hm hT hT2
 rcases hB with ⟨h, _⟩ | ⟨b, off, cap, rfl, hc, hm', hL⟩
 ·omega
 have hcell : (w.alloc (.cells #[.int .i64 0, .string ⟨#[]⟩, .int .i64 0, .int .i64 0] 120)).cell? ⟨b, off + i, none⟩ = some (.int .u8 (bx l i)) := by
  rw [World.cell?_alloc_past _ _ _ (cell_lt (hL.cell i hi))]; exact hL.cell i hi
 clear hL hm' hc
 rw [hk] at hcell
 clear hk
 go_enter Tryz.func159, Tryz.ntmps159
 go_wp2_with (first | (go_at_call 163; with_reducible refine am.mono ?_; rintro r w' ⟨rfl, rfl⟩) | (go_at_call 177; refine (gd _).mono ?_; rintro r w' ⟨rfl, rfl⟩) | (go_at_call 179; refine g.mono ?_; rintro r w3 ⟨rfl, hb3⟩; obtain ⟨kc, kf, kz⟩ := keepT (bl_t hb0 hb3)))
 refine bodyPost_ret (v := .tuple #[tokV ⟨0, [], 0, 0⟩, errV n]) ?_ rfl ?_
 all_goals first | (exact ⟨rfl, (by with_reducible repeat (first | exact Below.refl _ _ | refine bl_t ?_ (bl_t hb0 hb3) | refine bl_a ?_ _ | refine bl_s ?_ (by omega) _))⟩) | (simp [results, Tryz.results159, go_sem, tokV, errV, kc])

set_option maxRecDepth 100000 in
set_option maxHeartbeats 1600000 in
theorem read_text_ok (l : List UInt8) (i : Nat) (v : Value) (w : World) (hB : Byt w v l) (hi : i < l.length) (hk : bx l i = 34) (hm : l.length ≤ 140737488351232) (hT : Tab w) (t : Tok) (hr : textL l i = .ok t) :
  Calls Tryz.prog 159 #[v, .int .i64 i] w fun r w' => r = .returned (tkV (.ok t)) ∧ Below w.heap.size w w' := by
 have hB1 : Byt (w.alloc (.cells #[.int .i64 0, .string ⟨#[]⟩, .int .i64 0, .int .i64 0] 120)) v l := Row.alloc hB _
 have hB2 : Byt ((w.alloc (.cells #[.int .i64 0, .string ⟨#[]⟩, .int .i64 0, .int .i64 0] 120)).alloc (.cells #[.int .u8 91, .int .u8 93, .int .u8 123, .int .u8 125, .int .u8 44, .int .u8 58] 5)) v l := Row.alloc hB1 _
 have hb0 : Below (w.alloc (.cells #[.int .i64 0, .string ⟨#[]⟩, .int .i64 0, .int .i64 0] 120)).heap.size (w.alloc (.cells #[.int .i64 0, .string ⟨#[]⟩, .int .i64 0, .int .i64 0] 120)) ((w.alloc (.cells #[.int .i64 0, .string ⟨#[]⟩, .int .i64 0, .int .i64 0] 120)).alloc (.cells #[.int .u8 91, .int .u8 93, .int .u8 123, .int .u8 125, .int .u8 44, .int .u8 58] 5)) := bl_a (Below.refl _ _) _
 have hiI : (i : Int) < (l.length : Int) := by omega
 have hne : ((i : Int) == (l.length : Int)) = false := beq_eq_false_iff_ne.2 (by omega)
 have hmI : (i : Int) ≤ 281474976710656 := by omega
 have hT2 : Tab ((w.alloc (.cells #[.int .i64 0, .string ⟨#[]⟩, .int .i64 0, .int .i64 0] 120)).alloc (.cells #[.int .u8 91, .int .u8 93, .int .u8 123, .int .u8 125, .int .u8 44, .int .u8 58] 5)) := hT.below (bl_a (bl_a (Below.refl _ _) _) _)
 have g := text_any l i v _ hT2 hB2 hi hm
 rw [hr] at g
 simp only [tkV, tokV] at g
 have am := among_at 34 [91, 93, 123, 125, 44, 58] (w.alloc (.cells #[.int .i64 0, .string ⟨#[]⟩, .int .i64 0, .int .i64 0] 120)) (w.heap.size + 1) #[.int .u8 91, .int .u8 93, .int .u8 123, .int .u8 125, .int .u8 44, .int .u8 58] 6 false (by simp) rfl rfl (by decide) (by decide)
 have gd := isDigit_eq 34
 rw [show digitB 34 = false from rfl] at gd
 clear hr hm hT hT2
 rcases hB with ⟨h, _⟩ | ⟨b, off, cap, rfl, hc, hm', hL⟩
 ·omega
 have hcell : (w.alloc (.cells #[.int .i64 0, .string ⟨#[]⟩, .int .i64 0, .int .i64 0] 120)).cell? ⟨b, off + i, none⟩ = some (.int .u8 (bx l i)) := by
  rw [World.cell?_alloc_past _ _ _ (cell_lt (hL.cell i hi))]; exact hL.cell i hi
 clear hL hm' hc
 rw [hk] at hcell
 clear hk
 go_enter Tryz.func159, Tryz.ntmps159
 go_wp2_with (first | (go_at_call 163; with_reducible refine am.mono ?_; rintro r w' ⟨rfl, rfl⟩) | (go_at_call 177; refine (gd _).mono ?_; rintro r w' ⟨rfl, rfl⟩) | (go_at_call 179; refine g.mono ?_; rintro r w3 ⟨rfl, hb3⟩; obtain ⟨kc, kf, kz⟩ := keepT (bl_t hb0 hb3)))
 refine bodyPost_ret (v := .tuple #[tokV t, .nilIface]) ?_ rfl ?_
 all_goals first | (exact ⟨rfl, (by with_reducible repeat (first | exact Below.refl _ _ | refine bl_t ?_ (bl_t hb0 hb3) | refine bl_a ?_ _ | refine bl_s ?_ (by omega) _))⟩) | (simp [results, Tryz.results159, go_sem, tokV, kc])

set_option maxRecDepth 100000 in
set_option maxHeartbeats 1600000 in
theorem read_none (l : List UInt8) (i : Nat) (v : Value) (w : World) (hB : Byt w v l) (hi : i < l.length) (hs : signB (bx l i) = false) (n1 : bx l i ≠ 110) (n2 : bx l i ≠ 116) (n3 : bx l i ≠ 102) (n4 : bx l i ≠ 45) (n5 : digitB (bx l i) = false) (n6 : bx l i ≠ 34) (hm : l.length ≤ 140737488351232) :
  Calls Tryz.prog 159 #[v, .int .i64 i] w fun r w' => r = .returned (tkV (.error (i + 1))) ∧ Below w.heap.size w w' := by
 have hB1 : Byt (w.alloc (.cells #[.int .i64 0, .string ⟨#[]⟩, .int .i64 0, .int .i64 0] 120)) v l := Row.alloc hB _
 have hB2 : Byt ((w.alloc (.cells #[.int .i64 0, .string ⟨#[]⟩, .int .i64 0, .int .i64 0] 120)).alloc (.cells #[.int .u8 91, .int .u8 93, .int .u8 123, .int .u8 125, .int .u8 44, .int .u8 58] 5)) v l := Row.alloc hB1 _
 have hb0 : Below (w.alloc (.cells #[.int .i64 0, .string ⟨#[]⟩, .int .i64 0, .int .i64 0] 120)).heap.size (w.alloc (.cells #[.int .i64 0, .string ⟨#[]⟩, .int .i64 0, .int .i64 0] 120)) ((w.alloc (.cells #[.int .i64 0, .string ⟨#[]⟩, .int .i64 0, .int .i64 0] 120)).alloc (.cells #[.int .u8 91, .int .u8 93, .int .u8 123, .int .u8 125, .int .u8 44, .int .u8 58] 5)) := bl_a (Below.refl _ _) _
 have hiI : (i : Int) < (l.length : Int) := by omega
 have hne : ((i : Int) == (l.length : Int)) = false := beq_eq_false_iff_ne.2 (by omega)
 have hmI : (i : Int) ≤ 281474976710656 := by omega
 have am := among_at (bx l i) [91, 93, 123, 125, 44, 58] (w.alloc (.cells #[.int .i64 0, .string ⟨#[]⟩, .int .i64 0, .int .i64 0] 120)) (w.heap.size + 1) #[.int .u8 91, .int .u8 93, .int .u8 123, .int .u8 125, .int .u8 44, .int .u8 58] 6 false (by simp) rfl rfl (by decide) (by rw [← hs]; simp [signB])
 have gd := isDigit_eq (bx l i)
 rw [n5] at gd
 have gb := fun w => badAt_any i w (by omega)
 have e1 : (bx l i == 110) = false := beq_eq_false_iff_ne.2 n1
 have e2 : (bx l i == 116) = false := beq_eq_false_iff_ne.2 n2
 have e3 : (bx l i == 102) = false := beq_eq_false_iff_ne.2 n3
 have e4 : (bx l i == 45) = false := beq_eq_false_iff_ne.2 n4
 have e6 : (bx l i == 34) = false := beq_eq_false_iff_ne.2 n6
 clear hs n1 n2 n3 n4 n5 n6 hm
 rcases hB with ⟨h, _⟩ | ⟨b, off, cap, rfl, hc, hm', hL⟩
 ·omega
 have hcell : (w.alloc (.cells #[.int .i64 0, .string ⟨#[]⟩, .int .i64 0, .int .i64 0] 120)).cell? ⟨b, off + i, none⟩ = some (.int .u8 (bx l i)) := by
  rw [World.cell?_alloc_past _ _ _ (cell_lt (hL.cell i hi))]; exact hL.cell i hi
 clear hL hm' hc
 generalize bx l i = c at *
 go_enter Tryz.func159, Tryz.ntmps159
 go_wp2_with (first | (go_at_call 163; with_reducible refine am.mono ?_; rintro r w' ⟨rfl, rfl⟩) | (go_at_call 177; refine (gd _).mono ?_; rintro r w' ⟨rfl, rfl⟩) | (go_at_call 180; refine (gb _).mono ?_; rintro r w3 ⟨rfl, rfl⟩))
 refine bodyPost_ret (v := .tuple #[tokV ⟨0, [], 0, 0⟩, errV (i + 1)]) ?_ rfl ?_
 all_goals first | (exact ⟨rfl, (by with_reducible repeat (first | exact Below.refl _ _  | refine bl_a ?_ _ | refine bl_s ?_ (by omega) _))⟩) | (simp [results, Tryz.results159, go_sem, tokV, errV])

theorem sign_not {c : Int} (h : c = 110 ∨ c = 116 ∨ c = 102 ∨ c = 45 ∨ digitB c = true ∨ c = 34) : signB c = false := by
 simp [signB, digitB] at h ⊢
 omega
theorem read_any (l : List UInt8) (i : Nat) (v : Value) (w : World) (hT : Tab w) (hB : Byt w v l) (hi : i ≤ l.length) (hm : l.length ≤ 140737488351232) :
  Calls Tryz.prog 159 #[v, .int .i64 i] w fun r w' => r = .returned (tkV (readL l i)) ∧ Below w.heap.size w w' := by
 unfold readL
 by_cases he : i = l.length
 ·rw [if_pos he]; subst he; exact read_end l v w hB
 ·have hl : i < l.length := by omega
  rw [if_neg he]
  cases hs : signB (bx l i)
  ·rw [if_neg (by simp)]
   by_cases h1 : bx l i = 110
   ·rw [if_pos h1]
    cases hr : stands 3 l i (spelledL l i [110, 117, 108, 108]) with
    | error n => exact read_null_error l i v w hB hl h1 hm n hr
    | ok t => exact read_null_ok l i v w hB hl h1 hm t hr
   ·rw [if_neg h1]
    by_cases h2 : bx l i = 116
    ·rw [if_pos h2]
     cases hr : stands 3 l i (spelledL l i [116, 114, 117, 101]) with
     | error n => exact read_true_error l i v w hB hl h2 hm n hr
     | ok t => exact read_true_ok l i v w hB hl h2 hm t hr
    ·rw [if_neg h2]
     by_cases h3 : bx l i = 102
     ·rw [if_pos h3]
      cases hr : stands 3 l i (spelledL l i [102, 97, 108, 115, 101]) with
      | error n => exact read_false_error l i v w hB hl h3 hm n hr
      | ok t => exact read_false_ok l i v w hB hl h3 hm t hr
     ·rw [if_neg h3]
      by_cases h4 : bx l i = 45
      ·rw [if_pos (.inl h4)]
       cases hr : stands 2 l i (numberL l i) with
       | error n => exact read_minus_error l i v w hB hl h4 hm n hr
       | ok t => exact read_minus_ok l i v w hB hl h4 hm t hr
      ·cases h5 : digitB (bx l i)
       ·rw [if_neg (by simp [h4])]
        by_cases h6 : bx l i = 34
        ·rw [if_pos h6]
         cases hr : textL l i with
         | error n => exact read_text_error l i v w hB hl h6 hm hT n hr
         | ok t => exact read_text_ok l i v w hB hl h6 hm hT t hr
        ·rw [if_neg h6]
         exact read_none l i v w hB hl hs h1 h2 h3 h4 h5 h6 hm
       ·rw [if_pos (.inr rfl)]
        have hd : 48 ≤ bx l i ∧ bx l i ≤ 57 := by simpa [digitB] using h5
        cases hr : stands 2 l i (numberL l i) with
        | error n => exact read_digit_error l i v w hB hl hd.1 hd.2 hm n hr
        | ok t => exact read_digit_ok l i v w hB hl hd.1 hd.2 hm t hr
  ·rw [if_pos rfl]
   exact read_sign l i v w hB hl hs hm
end Go.Proofs.YtjdboekanmfgpaaGreatDoor.Lx
