/-
  DecOrder answers true for every three numbers, and leaves memory that was there as it was. Conditions: the package's sentinel, and the library's variables, as the program lays them.
-/
import Derived.Test.YtpeoepcfiejpmabGreatDoorTT
import Derived.Test.YtpeoepcfiejpmabGreatDoorS20
namespace Go.Proofs.YtpeoepcfiejpmabGreatDoor
open Go.RowKit

theorem order_walk (n1 n2 n3 : Bool) (s1 s2 s3 : ByteArray) (e1 e2 e3 : Int) (a : Addr) (w : World) (hE : Env w a) (b1 : s1.size ≤ maxLen) (b2 : s2.size ≤ maxLen) (b3 : s3.size ≤ maxLen) :
    Calls Tryz.prog 6 #[.agg #[.bool n1, .string s1, .int .i64 e1], .agg #[.bool n2, .string s2, .int .i64 e2], .agg #[.bool n3, .string s3, .int .i64 e3]] w fun r w' => r = .returned (.bool true) ∧ Below w.heap.size w w' := by
  cases g1 : goodB n1 s1 e1
  · exact ord_bad1 n1 n2 n3 s1 s2 s3 e1 e2 e3 a w hE b1 g1
  · cases g2 : goodB n2 s2 e2
    · exact ord_bad2 n1 n2 n3 s1 s2 s3 e1 e2 e3 a w hE b1 b2 g1 g2
    · cases g3 : goodB n3 s3 e3
      · exact ord_bad3 n1 n2 n3 s1 s2 s3 e1 e2 e3 a w hE b1 b2 b3 g1 g2 g3
      · have h1 := fun w => check_any n1 s1 e1 w b1
        have h2 := fun w => check_any n2 s2 e2 w b2
        have h3 := fun w => check_any n3 s3 e3 w b3
        rw [g1] at h1
        rw [g2] at h2
        rw [g3] at h3
        have c1 := fun w => compare_any n1 n2 s1 s2 e1 e2 w b1 b2
        have c2 := fun w => compare_any n2 n1 s2 s1 e2 e1 w b2 b1
        have c3 := fun w => compare_any n2 n3 s2 s3 e2 e3 w b2 b3
        have c4 := fun w => compare_any n1 n3 s1 s3 e1 e3 w b1 b3
        have c5 := fun w => compare_any (turnB n1 s1) (turnB n2 s2) s1 s2 e1 e2 w b1 b2
        rw [g1, g2] at c1
        rw [g2, g1] at c2
        rw [g2, g3] at c3
        rw [g1, g3] at c4
        rw [turn_good g1, turn_good g2, turn_V, turn_V, sg_neg, sg_swap] at c5
        rw [sg_swap] at c2
        simp only [errB, Bool.and_self, if_true] at h1 h2 h3 c1 c2 c3 c4 c5
        obtain ⟨f1, f2, f3, _, _⟩ := sg_facts (V ⟨n1, s1.data.toList, e1⟩) (V ⟨n2, s2.data.toList, e2⟩) (V ⟨n3, s3.data.toList, e3⟩)
        have q : ∀ s : ByteArray, s.size = 0 → s.toList.isEmpty = true := fun s h => by rw [ByteArray.toList_eq, (nil_size s).2 h]; rfl
        have t1 : ∀ (n : Bool) (s : ByteArray), s.size = 0 → turnB n s = n := fun n s h => if_pos h
        have t0 : ∀ (n : Bool) (s : ByteArray), ¬ s.size = 0 → turnB n s = !n := fun n s h => if_neg h
        by_cases z1 : s1.size = 0
        · by_cases z2 : s2.size = 0
          · rw [t1 n1 s1 z1, t1 n2 s2 z2] at c5
            exact ord_main11 n1 n2 n3 s1 s2 s3 e1 e2 e3 _ _ _ a w hE (q s1 z1) (q s2 z2) f1 f2 f3 h1 h2 h3 c1 c2 c3 c4 c5
          · rw [t1 n1 s1 z1, t0 n2 s2 z2] at c5
            exact ord_main10 n1 n2 n3 s1 s2 s3 e1 e2 e3 _ _ _ a w hE (q s1 z1) (toList_ne (by omega)) f1 f2 f3 h1 h2 h3 c1 c2 c3 c4 c5
        · by_cases z2 : s2.size = 0
          · rw [t0 n1 s1 z1, t1 n2 s2 z2] at c5
            exact ord_main01 n1 n2 n3 s1 s2 s3 e1 e2 e3 _ _ _ a w hE (toList_ne (by omega)) (q s2 z2) f1 f2 f3 h1 h2 h3 c1 c2 c3 c4 c5
          · exact ord_main00 n1 n2 n3 _ _ s1 s2 s3 e1 e2 e3 _ _ _ a w hE (toList_ne (by omega)) (toList_ne (by omega)) (if_neg z1) (if_neg z2) f1 f2 f3 h1 h2 h3 c1 c2 c3 c4 c5
end Go.Proofs.YtpeoepcfiejpmabGreatDoor
