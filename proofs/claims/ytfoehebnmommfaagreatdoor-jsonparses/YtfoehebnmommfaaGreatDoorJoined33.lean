/-
  What ref3.Cut answers from the exponent on. Conditions: at most 2^47 bytes.
  What ref3.Cut answers: the parts of a number's text, or that it is none. Conditions: at most 2^47 bytes.
-/
import Derived.Test.YtfoehebnmommfaaGreatDoorJoined32
import Derived.Deep.CutRange
import Derived.Deep.DeepCutAuto
import Derived.Deep.CutBlock
namespace Go.Proofs.YtfoehebnmommfaaGreatDoor
open Go.RowKit
attribute [local go_sem] setCell_drewN alloc_drewN

def headIs (k : Nat) : Code → Bool
 | .region id _ _ => id == k
 | .seq a _ => headIs k a
 | _ => false
def tailFrom (k : Nat) : Code → Option Code
 | .seq a b => if headIs k b then some b else match tailFrom k b with
  | some x => some x
  | none => tailFrom k a
 | .block _ c => tailFrom k c
 | .scope c => tailFrom k c
 | _ => none
noncomputable def cutRest : Code := ((Tryz.f91.body.bind (tailFrom 20)).getD .skip)
set_option maxRecDepth 100000 in
set_option maxHeartbeats 12800000 in
theorem rcut_exp (s : ByteArray) (w : World) (hs : s.size ≤ 140737488355328) (i2 : Nat) (h2s : i2 ≤ s.size) (neg : Bool) (DB FB : ByteArray) (hC : CutF s i2 neg DB FB) (u3 u6 u7 u8 u9 u10 u11 u12 u13 u14 u15 u16 u17 u18 u19 u20 u21 u22 u23 u24 u25 u26 u27 u28 u29 u30 u31 u32 u33 u34 u35 u36 u37 u38 u39 u40 u41 u42 u43 u44 u45 u46 u47 u48 u49 u50 u51 u52 u53 u54 u55 u56 u57 u58 u59 u60 u61 u62 u63 u64 u65 u66 u67 u68 u69 u70 u71 u72 u73 u74 u75 u76 u77 u78 u79 u80 u81 u82 u83 u84 u85 u86 u87 u88 u89 u90 u91 u92 u93 u94 u95 u96 u97 u98 u99 u100 u101 u102 u103 u104 u105 u106 u107 u108 u109 u110 u111 u112 u113 u114 u115 u116 u117 u118 u119 u120 u121 u122 u123 u124 u125 u126 u127 u128 u129 u130 u131 u132 u133 u134 u135 u136 u137 u138 u139 u140 u141 u142 u143 u144 u145 u146 u147 u148 u149 u150 u151 u152 u153 u154 u155 : Value) :
  Code.wp Tryz.prog cutRest (bodyPost Tryz.prog Tryz.f91 fun e w' => ∃ n a b m x ok, e = .returned (.tuple #[.agg #[.bool n, .string a, .string b, .bool m, .string x], .bool ok]) ∧ CutOK s.data.toList n a b m x ok ∧ Below w.heap.size w w') ⟨List.toArray (.string s :: undef :: .pointer (some ⟨w.heap.size, 0, none⟩) :: u3 :: .pointer (some ⟨w.heap.size + 1, 0, none⟩) :: .int .i64 (i2 : Int) :: u6 :: u7 :: u8 :: u9 :: u10 :: u11 :: u12 :: u13 :: u14 :: u15 :: u16 :: u17 :: u18 :: u19 :: u20 :: u21 :: u22 :: u23 :: u24 :: u25 :: u26 :: u27 :: u28 :: u29 :: u30 :: u31 :: u32 :: u33 :: u34 :: u35 :: u36 :: u37 :: u38 :: u39 :: u40 :: u41 :: u42 :: u43 :: u44 :: u45 :: u46 :: u47 :: u48 :: u49 :: u50 :: u51 :: u52 :: u53 :: u54 :: u55 :: u56 :: u57 :: u58 :: u59 :: u60 :: u61 :: u62 :: u63 :: u64 :: u65 :: u66 :: u67 :: u68 :: u69 :: u70 :: u71 :: u72 :: u73 :: u74 :: u75 :: u76 :: u77 :: u78 :: u79 :: u80 :: u81 :: u82 :: u83 :: u84 :: u85 :: u86 :: u87 :: u88 :: u89 :: u90 :: u91 :: u92 :: u93 :: u94 :: u95 :: u96 :: u97 :: u98 :: u99 :: u100 :: u101 :: u102 :: u103 :: u104 :: u105 :: u106 :: u107 :: u108 :: u109 :: u110 :: u111 :: u112 :: u113 :: u114 :: u115 :: u116 :: u117 :: u118 :: u119 :: u120 :: u121 :: u122 :: u123 :: u124 :: u125 :: u126 :: u127 :: u128 :: u129 :: u130 :: u131 :: u132 :: u133 :: u134 :: u135 :: u136 :: u137 :: u138 :: u139 :: u140 :: u141 :: u142 :: u143 :: u144 :: u145 :: u146 :: u147 :: u148 :: u149 :: u150 :: u151 :: u152 :: u153 :: u154 :: u155 :: []), []⟩ ((w.alloc (.cells #[.bool false, .string ⟨#[]⟩, .string ⟨#[]⟩, .bool false, .string ⟨#[]⟩] 144)).alloc (.cells #[.bool neg, .string DB, .string FB, .bool false, .string ⟨#[]⟩] 144)) := by
 have hsI : (s.size : Int) ≤ 140737488355328 := by omega
 have HC : Hid (CutF s i2 neg DB FB) := hC
 clear hC
 conv => arg 2; whnf
 go_upto_region 20 with fail
 go_cut [103] (fun sv wx => sv = .bool (hdB s i2 101 || hdB s i2 69) ∧ wx = (w.alloc (.cells #[.bool false, .string ⟨#[]⟩, .string ⟨#[]⟩, .bool false, .string ⟨#[]⟩] 144)).alloc (.cells #[.bool neg, .string DB, .string FB, .bool false, .string ⟨#[]⟩] 144))
 case first =>
  by_cases hkk : i2 < s.size
  ·have kkI : (i2 : Int) < (s.size : Int) := by omega
   have hxx := cx_at s i2 hkk
   by_cases hcc : cx s i2 = 101
   ·have HB : Hid ((hdB s i2 101 || hdB s i2 69) = true) := by show _ = _; rw [show hdB s i2 101 = true from decide_eq_true ⟨hkk, hcc⟩]; rfl
    rw [hcc] at hxx
    clear hcc
    go_wp2
    go_meet
    case rel => exact ⟨by rw [HB.out], rfl⟩
   ·by_cases hee : cx s i2 = 69
    ·have HB : Hid ((hdB s i2 101 || hdB s i2 69) = true) := by show _ = _; rw [show hdB s i2 69 = true from decide_eq_true ⟨hkk, hee⟩, Bool.or_true]
     rw [hee] at hxx
     clear hcc hee
     go_wp2
     go_meet
     case rel => exact ⟨by rw [HB.out], rfl⟩
    ·have HB : Hid ((hdB s i2 101 || hdB s i2 69) = false) := by show _ = _; rw [show hdB s i2 101 = false from decide_eq_false (fun h => hcc h.2), show hdB s i2 69 = false from decide_eq_false (fun h => hee h.2)]; rfl
     have hcn : (cx s i2 == 101) = false := beq_eq_false_iff_ne.2 hcc
     have hen : (cx s i2 == 69) = false := beq_eq_false_iff_ne.2 hee
     rw [← hxx] at hcn hen
     clear hcc hee hxx
     go_wp2
     go_meet
     case rel => exact ⟨by rw [HB.out], rfl⟩
  ·have HB : Hid ((hdB s i2 101 || hdB s i2 69) = false) := by show _ = _; rw [show hdB s i2 101 = false from decide_eq_false (fun h => hkk h.1), show hdB s i2 69 = false from decide_eq_false (fun h => hkk h.1)]; rfl
   have kkd : decide (i2 < s.size) = false := decide_eq_false hkk
   clear hkk
   go_wp2
   go_meet
   case rel => exact ⟨by rw [HB.out], rfl⟩
 case rest =>
  obtain ⟨rfl, rfl⟩ := hcut
  cases hee : (hdB s i2 101 || hdB s i2 69)
  ·have HS4 : Hid (CutOK s.data.toList neg DB FB false ⟨#[]⟩ ((i2 : Int) == (s.size : Int))) := HC.out.no_exp hee h2s
   clear hee
   go_wp2
   refine bodyPost_ret (v := .tuple #[.agg #[.bool neg, .string DB, .string FB, .bool false, .string ⟨#[]⟩], .bool ((i2 : Int) == (s.size : Int))]) ?_ rfl ?_
   ·simp [results, Tryz.results91, go_sem]
   ·exact ⟨_, _, _, _, _, _, rfl, HS4.out, (by with_reducible repeat (first | exact Below.refl _ _ | refine bl_d ?_ | refine bl_n ?_ _ | refine bl_a ?_ _ | refine bl_s ?_ (by omega) _))⟩
  ·skip
   go_upto_region 21 with fail
   go_cut [5] (fun s5 wx => ∃ q : Nat, Hid (q = i2 + 1) ∧ s5 = .int .i64 (q : Int) ∧ wx = (w.alloc (.cells #[.bool false, .string ⟨#[]⟩, .string ⟨#[]⟩, .bool false, .string ⟨#[]⟩] 144)).alloc (.cells #[.bool neg, .string DB, .string FB, .bool false, .string ⟨#[]⟩] 144))
   case first =>
    go_wp2
    go_meet
    case rel => exact ⟨i2 + 1, rfl, by go_num, rfl⟩
   case rest =>
    obtain ⟨q2, Hq2, rfl, rfl⟩ := hcut
    have hq2s : q2 ≤ s.size := by have := Hq2.out; have := hdB_lt2 hee; omega
    have HC2 : Hid (CutE s q2 neg DB FB) := by
     have := HC.out.at_exp hee
     rw [← Hq2.out] at this
     exact this
    clear HC
    have HC := HC2
    clear HC2
    go_upto_region 22 with fail
    go_cut [121] (fun sv wx => sv = .bool (hdB s q2 43 || hdB s q2 45) ∧ wx = (w.alloc (.cells #[.bool false, .string ⟨#[]⟩, .string ⟨#[]⟩, .bool false, .string ⟨#[]⟩] 144)).alloc (.cells #[.bool neg, .string DB, .string FB, .bool false, .string ⟨#[]⟩] 144))
    case first =>
     by_cases hkk : q2 < s.size
     ·have kkI : (q2 : Int) < (s.size : Int) := by omega
      have hxx := cx_at s q2 hkk
      by_cases hcc : cx s q2 = 43
      ·have HB : Hid ((hdB s q2 43 || hdB s q2 45) = true) := by show _ = _; rw [show hdB s q2 43 = true from decide_eq_true ⟨hkk, hcc⟩]; rfl
       rw [hcc] at hxx
       clear hcc
       go_wp2
       go_meet
       case rel => exact ⟨by rw [HB.out], rfl⟩
      ·by_cases hee : cx s q2 = 45
       ·have HB : Hid ((hdB s q2 43 || hdB s q2 45) = true) := by show _ = _; rw [show hdB s q2 45 = true from decide_eq_true ⟨hkk, hee⟩, Bool.or_true]
        rw [hee] at hxx
        clear hcc hee
        go_wp2
        go_meet
        case rel => exact ⟨by rw [HB.out], rfl⟩
       ·have HB : Hid ((hdB s q2 43 || hdB s q2 45) = false) := by show _ = _; rw [show hdB s q2 43 = false from decide_eq_false (fun h => hcc h.2), show hdB s q2 45 = false from decide_eq_false (fun h => hee h.2)]; rfl
        have hcn : (cx s q2 == 43) = false := beq_eq_false_iff_ne.2 hcc
        have hen : (cx s q2 == 45) = false := beq_eq_false_iff_ne.2 hee
        rw [← hxx] at hcn hen
        clear hcc hee hxx
        go_wp2
        go_meet
        case rel => exact ⟨by rw [HB.out], rfl⟩
     ·have HB : Hid ((hdB s q2 43 || hdB s q2 45) = false) := by show _ = _; rw [show hdB s q2 43 = false from decide_eq_false (fun h => hkk h.1), show hdB s q2 45 = false from decide_eq_false (fun h => hkk h.1)]; rfl
      have kkd : decide (q2 < s.size) = false := decide_eq_false hkk
      clear hkk
      go_wp2
      go_meet
      case rel => exact ⟨by rw [HB.out], rfl⟩
    case rest =>
     obtain ⟨rfl, rfl⟩ := hcut
     go_upto_if 121 with fail
     go_cut [5] (fun s5 wx => ∃ (i3 : Nat) (mi : Bool), i3 ≤ s.size ∧ Hid (SignAt s q2 i3 mi) ∧ s5 = .int .i64 (i3 : Int) ∧ wx = (w.alloc (.cells #[.bool false, .string ⟨#[]⟩, .string ⟨#[]⟩, .bool false, .string ⟨#[]⟩] 144)).alloc (.cells #[.bool neg, .string DB, .string FB, .bool mi, .string ⟨#[]⟩] 144))
     case first =>
      cases hsg : (hdB s q2 43 || hdB s q2 45)
      ·have HG : Hid (SignAt s q2 q2 false) := signAt_none hsg
       clear hsg
       go_wp2
       go_meet
       case rel => exact ⟨q2, false, hq2s, HG.out, rfl, rfl⟩
      ·obtain ⟨hq3, HG⟩ := signAt_some hsg
       have q2I : (q2 : Int) < (s.size : Int) := by omega
       have hxq := cx_at s q2 hq3
       have HG2 : Hid (SignAt s q2 (q2 + 1) (cx s q2 == 45)) := HG
       clear hsg HG
       generalize cx s q2 = y at *
       go_wp2
       go_meet
       case rel => exact ⟨q2 + 1, (y == 45), by omega, HG2.out, by go_num, rfl⟩
     case rest =>
      obtain ⟨i3, mi, h3s, HS3, rfl, rfl⟩ := hcut
      go_upto_block 4 with fail
      go_cut [5] (fun s5 wx => ∃ k : Nat, i3 ≤ k ∧ k ≤ s.size ∧ Hid (TwDw s i3 k) ∧ s5 = .int .i64 (k : Int) ∧ wx = (w.alloc (.cells #[.bool false, .string ⟨#[]⟩, .string ⟨#[]⟩, .bool false, .string ⟨#[]⟩] 144)).alloc (.cells #[.bool neg, .string DB, .string FB, .bool mi, .string ⟨#[]⟩] 144))
      case first =>
       go_wp2_with fail
       go_loop [5] (fun i => ∃ k : Nat, i3 ≤ k ∧ k ≤ s.size ∧ i = .int .i64 (k : Int) ∧ Hid (∀ j, i3 ≤ j → j < k → 48 ≤ cx s j ∧ cx s j ≤ 57)) (fun i => s.size - (intOf i).toNat)
       case atStart => exact ⟨i3, Nat.le_refl _, by omega, rfl, fun j a b => absurd a (by omega)⟩
       case round =>
        obtain ⟨k, hk0, hk, rfl, HK⟩ := hrel
        by_cases hlt : k < s.size
        ·have kI : (k : Int) < (s.size : Int) := by omega
         have hx := cx_at s k hlt
         have hb := cx_bd s k
         have hdig := fun w => digit_any (cx s k) w hb.1 hb.2
         by_cases hdg : 48 ≤ cx s k ∧ cx s k ≤ 57
         ·rw [show isDI (cx s k) = true from decide_eq_true hdg] at hdig
          have HK2 : Hid (∀ j, i3 ≤ j → j < k + 1 → 48 ≤ cx s j ∧ cx s j ≤ 57) := fun j a b => by
           by_cases e : j = k
           ·rw [e]; exact hdg
           ·exact HK.out j a (by omega)
          clear HK hdg
          generalize cx s k = y at *
          go_wp2_with (go_at_call 111; refine (hdig _).mono ?_; rintro e w' ⟨rfl, rfl⟩)
          go_round
          case rel => exact ⟨k + 1, by omega, by omega, by go_num, HK2.out⟩
          case measure => simp [intOf] <;> omega
         ·rw [show isDI (cx s k) = false from decide_eq_false hdg] at hdig
          have HE : Hid (TwDw s i3 k) := twdw_of hk0 hk HK.out (fun _ => hdg)
          clear HK hdg
          generalize cx s k = y at *
          go_wp2_with (go_at_call 111; refine (hdig _).mono ?_; rintro e w' ⟨rfl, rfl⟩)
          go_meet
          case rel => exact ⟨k, hk0, hk, HE.out, rfl, rfl⟩
        ·have HE : Hid (TwDw s i3 k) := twdw_of hk0 hk HK.out (fun h => absurd h hlt)
         have kd : decide (k < s.size) = false := decide_eq_false hlt
         clear HK hlt
         go_wp2_with fail
         go_meet
         case rel => exact ⟨k, hk0, hk, HE.out, rfl, rfl⟩
      case rest =>
       obtain ⟨k4, h34, hk4, HE4, rfl, rfl⟩ := hcut
       have hIX : s.extract i3 k4 = bs (tw (s.data.toList.drop i3)) := HE4.out.mid
       cases hXe : tw (s.data.toList.drop i3) with
       | nil =>
        rw [hXe] at hIX
        have hb0 : bs [] = ⟨#[]⟩ := rfl
        rw [hb0] at hIX
        have HN : Hid (cutL s.data.toList = none) := HC.out.exp_none HS3.out hXe
        clear hXe
        go_wp2
        refine bodyPost_ret (v := .tuple #[.agg #[.bool neg, .string DB, .string FB, .bool mi, .string ⟨#[]⟩], .bool false]) ?_ rfl ?_
        ·simp [results, Tryz.results91, go_sem]
        ·exact ⟨_, _, _, _, _, _, rfl, .inl ⟨HN.out, rfl⟩, (by with_reducible repeat (first | exact Below.refl _ _ | refine bl_d ?_ | refine bl_n ?_ _ | refine bl_a ?_ _ | refine bl_s ?_ (by omega) _))⟩
       | cons c0 t0 =>
        have hXn := toList_ne (s := bs (c0 :: t0)) (by rw [bs_size]; simp)
        rw [hXe] at hIX
        have HS4 : Hid (CutOK s.data.toList neg DB FB mi (bs (c0 :: t0)) ((k4 : Int) == (s.size : Int))) := HC.out.exp_some HS3.out hXe HE4.out hk4
        clear hXe
        generalize bs (c0 :: t0) = XB at *
        go_wp2
        refine bodyPost_ret (v := .tuple #[.agg #[.bool neg, .string DB, .string FB, .bool mi, .string XB], .bool ((k4 : Int) == (s.size : Int))]) ?_ rfl ?_
        ·simp [results, Tryz.results91, go_sem]
        ·exact ⟨_, _, _, _, _, _, rfl, HS4.out, (by with_reducible repeat (first | exact Below.refl _ _ | refine bl_d ?_ | refine bl_n ?_ _ | refine bl_a ?_ _ | refine bl_s ?_ (by omega) _))⟩
end Go.Proofs.YtfoehebnmommfaaGreatDoor

namespace Go.Proofs.YtfoehebnmommfaaGreatDoor
open Go.RowKit
attribute [local go_sem] setCell_drewN alloc_drewN

set_option maxRecDepth 100000 in
set_option maxHeartbeats 12800000 in
theorem rcut_any (s : ByteArray) (w : World) (hs : s.size ≤ 140737488355328) :
  Calls Tryz.prog 91 #[.string s] w fun e w' => ∃ n a b m x ok, e = .returned (.tuple #[.agg #[.bool n, .string a, .string b, .bool m, .string x], .bool ok]) ∧ CutOK s.data.toList n a b m x ok ∧ Below w.heap.size w w' := by
 have hsI : (s.size : Int) ≤ 140737488355328 := by omega
 go_enter Tryz.func91, Tryz.ntmps91
 go_upto_region 3 with fail
 go_cut [16] (fun sv wx => sv = .bool (hdB s 0 45) ∧ wx = (w.alloc (.cells #[.bool false, .string ⟨#[]⟩, .string ⟨#[]⟩, .bool false, .string ⟨#[]⟩] 144)).alloc (.cells #[.bool false, .string ⟨#[]⟩, .string ⟨#[]⟩, .bool false, .string ⟨#[]⟩] 144))
 case first =>
  by_cases hkk : 0 < s.size
  ·have kkI : (0 : Int) < (s.size : Int) := by omega
   have hxx := cx_at s 0 hkk
   by_cases hcc : cx s 0 = 45
   ·have HB : Hid (hdB s 0 45 = true) := decide_eq_true ⟨hkk, hcc⟩
    rw [hcc] at hxx
    clear hcc
    go_wp2
    go_meet
    case rel => exact ⟨by rw [HB.out], rfl⟩
   ·have HB : Hid (hdB s 0 45 = false) := decide_eq_false (fun h => hcc h.2)
    have hcn : (cx s 0 == 45) = false := beq_eq_false_iff_ne.2 hcc
    rw [← hxx] at hcn
    clear hcc hxx
    go_wp2
    go_meet
    case rel => exact ⟨by rw [HB.out], rfl⟩
  ·have HB : Hid (hdB s 0 45 = false) := decide_eq_false (fun h => hkk h.1)
   have kkd : decide (0 < s.size) = false := decide_eq_false hkk
   clear hkk
   go_wp2
   go_meet
   case rel => exact ⟨by rw [HB.out], rfl⟩
 case rest =>
  obtain ⟨rfl, rfl⟩ := hcut
  go_upto_if 16 with fail
  go_cut [5] (fun s5 wx => ∃ (i0 : Nat) (neg : Bool), i0 ≤ s.size ∧ Hid (CutM s i0 neg) ∧ s5 = .int .i64 (i0 : Int) ∧ wx = (w.alloc (.cells #[.bool false, .string ⟨#[]⟩, .string ⟨#[]⟩, .bool false, .string ⟨#[]⟩] 144)).alloc (.cells #[.bool neg, .string ⟨#[]⟩, .string ⟨#[]⟩, .bool false, .string ⟨#[]⟩] 144))
  case first =>
   cases hmm : hdB s 0 45
   ·have HM : Hid (CutM s 0 false) := cutM_none hmm
    clear hmm
    go_wp2
    go_meet
    case rel => exact ⟨0, false, by omega, HM.out, rfl, rfl⟩
   ·have HM : Hid (CutM s 1 true) := cutM_some hmm
    have h1s : 1 ≤ s.size := by have := hdB_lt hmm; omega
    clear hmm
    go_wp2
    go_meet
    case rel => exact ⟨1, true, h1s, HM.out, rfl, rfl⟩
  case rest =>
   obtain ⟨i0, neg, h0s, HM, rfl, rfl⟩ := hcut
   go_upto_block 0 with fail
   go_cut [5] (fun s5 wx => ∃ k : Nat, i0 ≤ k ∧ k ≤ s.size ∧ Hid (TwDw s i0 k) ∧ s5 = .int .i64 (k : Int) ∧ wx = (w.alloc (.cells #[.bool false, .string ⟨#[]⟩, .string ⟨#[]⟩, .bool false, .string ⟨#[]⟩] 144)).alloc (.cells #[.bool neg, .string ⟨#[]⟩, .string ⟨#[]⟩, .bool false, .string ⟨#[]⟩] 144))
   case first =>
    go_wp2_with fail
    go_loop [5] (fun i => ∃ k : Nat, i0 ≤ k ∧ k ≤ s.size ∧ i = .int .i64 (k : Int) ∧ Hid (∀ j, i0 ≤ j → j < k → 48 ≤ cx s j ∧ cx s j ≤ 57)) (fun i => s.size - (intOf i).toNat)
    case atStart => exact ⟨i0, Nat.le_refl _, by omega, rfl, fun j a b => absurd a (by omega)⟩
    case round =>
     obtain ⟨k, hk0, hk, rfl, HK⟩ := hrel
     by_cases hlt : k < s.size
     ·have kI : (k : Int) < (s.size : Int) := by omega
      have hx := cx_at s k hlt
      have hb := cx_bd s k
      have hdig := fun w => digit_any (cx s k) w hb.1 hb.2
      by_cases hdg : 48 ≤ cx s k ∧ cx s k ≤ 57
      ·rw [show isDI (cx s k) = true from decide_eq_true hdg] at hdig
       have HK2 : Hid (∀ j, i0 ≤ j → j < k + 1 → 48 ≤ cx s j ∧ cx s j ≤ 57) := fun j a b => by
        by_cases e : j = k
        ·rw [e]; exact hdg
        ·exact HK.out j a (by omega)
       clear HK hdg
       generalize cx s k = y at *
       go_wp2_with (go_at_call 111; refine (hdig _).mono ?_; rintro e w' ⟨rfl, rfl⟩)
       go_round
       case rel => exact ⟨k + 1, by omega, by omega, by go_num, HK2.out⟩
       case measure => simp [intOf] <;> omega
      ·rw [show isDI (cx s k) = false from decide_eq_false hdg] at hdig
       have HE : Hid (TwDw s i0 k) := twdw_of hk0 hk HK.out (fun _ => hdg)
       clear HK hdg
       generalize cx s k = y at *
       go_wp2_with (go_at_call 111; refine (hdig _).mono ?_; rintro e w' ⟨rfl, rfl⟩)
       go_meet
       case rel => exact ⟨k, hk0, hk, HE.out, rfl, rfl⟩
     ·have HE : Hid (TwDw s i0 k) := twdw_of hk0 hk HK.out (fun h => absurd h hlt)
      have kd : decide (k < s.size) = false := decide_eq_false hlt
      clear HK hlt
      go_wp2_with fail
      go_meet
      case rel => exact ⟨k, hk0, hk, HE.out, rfl, rfl⟩
   case rest =>
    obtain ⟨k1, h01, hk1, HE1, rfl, rfl⟩ := hcut
    have hID : s.extract i0 k1 = bs (tw (s.data.toList.drop i0)) := HE1.out.mid
    obtain ⟨DB, hDB⟩ : ∃ DB, bs (tw (s.data.toList.drop i0)) = DB := ⟨_, rfl⟩
    rw [hDB] at hID
    have hDs : DB.size ≤ s.size := by rw [← hDB, bs_size]; exact HE1.out.len
    have HDB : Hid (bs (tw (s.data.toList.drop i0)) = DB) := hDB
    clear hDB
    go_upto_region 10 with fail
    go_cut [52] (fun sv wx => sv = .bool (badB DB) ∧ wx = (w.alloc (.cells #[.bool false, .string ⟨#[]⟩, .string ⟨#[]⟩, .bool false, .string ⟨#[]⟩] 144)).alloc (.cells #[.bool neg, .string DB, .string ⟨#[]⟩, .bool false, .string ⟨#[]⟩] 144))
    case first =>
     by_cases hz : DB.size = 0
     ·have HB : Hid (badB DB = true) := decide_eq_true (.inl hz)
      have hn : DB.toList = [] := by rw [ByteArray.toList_eq]; exact (nil_size DB).2 hz
      clear hz
      go_wp2
      go_meet
      case rel => exact ⟨by rw [HB.out], rfl⟩
     ·have hn := toList_ne (s := DB) (by omega)
      have hz0 : 0 < DB.size := by omega
      have hx0 := cx_at DB 0 hz0
      by_cases h1 : 1 < DB.size
      ·have h1I : (1 : Int) < (DB.size : Int) := by omega
       by_cases h48 : cx DB 0 = 48
       ·have HB : Hid (badB DB = true) := decide_eq_true (.inr ⟨h1, h48⟩)
        rw [h48] at hx0
        clear h48 hz h1
        go_wp2
        go_meet
        case rel => exact ⟨by rw [HB.out], rfl⟩
       ·have HB : Hid (badB DB = false) := decide_eq_false (fun h => h.elim hz (fun h => h48 h.2))
        have hc0 : (cx DB 0 == 48) = false := beq_eq_false_iff_ne.2 h48
        rw [← hx0] at hc0
        clear h48 hz h1 hx0
        go_wp2
        go_meet
        case rel => exact ⟨by rw [HB.out], rfl⟩
      ·have HB : Hid (badB DB = false) := decide_eq_false (fun h => h.elim hz (fun h => h1 h.1))
       have h1d : decide (1 < DB.size) = false := decide_eq_false h1
       have h1e : decide ((1 : Int) < (DB.size : Int)) = false := decide_eq_false (by omega)
       clear hz h1 hx0
       go_wp2
       go_meet
       case rel => exact ⟨by rw [HB.out], rfl⟩
    case rest =>
     obtain ⟨rfl, rfl⟩ := hcut
     cases hbad : badB DB
     ·have HC : Hid (CutI s k1 neg DB) := HM.out.int_some HDB.out HE1.out hbad
      clear hbad
      go_upto_region 12 with fail
      go_cut [63] (fun sv wx => sv = .bool (hdB s k1 46) ∧ wx = (w.alloc (.cells #[.bool false, .string ⟨#[]⟩, .string ⟨#[]⟩, .bool false, .string ⟨#[]⟩] 144)).alloc (.cells #[.bool neg, .string DB, .string ⟨#[]⟩, .bool false, .string ⟨#[]⟩] 144))
      case first =>
       by_cases hkk : k1 < s.size
       ·have kkI : (k1 : Int) < (s.size : Int) := by omega
        have hxx := cx_at s k1 hkk
        by_cases hcc : cx s k1 = 46
        ·have HB : Hid (hdB s k1 46 = true) := decide_eq_true ⟨hkk, hcc⟩
         rw [hcc] at hxx
         clear hcc
         go_wp2
         go_meet
         case rel => exact ⟨by rw [HB.out], rfl⟩
        ·have HB : Hid (hdB s k1 46 = false) := decide_eq_false (fun h => hcc h.2)
         have hcn : (cx s k1 == 46) = false := beq_eq_false_iff_ne.2 hcc
         rw [← hxx] at hcn
         clear hcc hxx
         go_wp2
         go_meet
         case rel => exact ⟨by rw [HB.out], rfl⟩
       ·have HB : Hid (hdB s k1 46 = false) := decide_eq_false (fun h => hkk h.1)
        have kkd : decide (k1 < s.size) = false := decide_eq_false hkk
        clear hkk
        go_wp2
        go_meet
        case rel => exact ⟨by rw [HB.out], rfl⟩
      case rest =>
       obtain ⟨rfl, rfl⟩ := hcut
       go_upto_if 63 with fail
       go_cut [5] (fun s5 wx => ∃ (i2 : Nat) (FB : ByteArray), i2 ≤ s.size ∧ Hid (CutF s i2 neg DB FB) ∧ s5 = .int .i64 (i2 : Int) ∧ wx = (w.alloc (.cells #[.bool false, .string ⟨#[]⟩, .string ⟨#[]⟩, .bool false, .string ⟨#[]⟩] 144)).alloc (.cells #[.bool neg, .string DB, .string FB, .bool false, .string ⟨#[]⟩] 144))
       case first =>
        cases hff : hdB s k1 46
        ·have HF : Hid (CutF s k1 neg DB ⟨#[]⟩) := HC.out.no_frac hff
         clear hff
         go_wp2
         go_meet
         case rel => exact ⟨k1, ⟨#[]⟩, hk1, HF.out, rfl, rfl⟩
        ·skip
         go_upto_region 13 with fail
         go_cut [5] (fun s5 wx => ∃ q : Nat, Hid (q = k1 + 1) ∧ s5 = .int .i64 (q : Int) ∧ wx = (w.alloc (.cells #[.bool false, .string ⟨#[]⟩, .string ⟨#[]⟩, .bool false, .string ⟨#[]⟩] 144)).alloc (.cells #[.bool neg, .string DB, .string ⟨#[]⟩, .bool false, .string ⟨#[]⟩] 144))
         case first =>
          go_wp2
          go_meet
          case rel => exact ⟨k1 + 1, rfl, by go_num, rfl⟩
         case rest =>
          obtain ⟨q1, Hq1, rfl, rfl⟩ := hcut
          have hq1s : q1 ≤ s.size := by have := Hq1.out; have := hdB_lt hff; omega
          go_upto_block 2 with fail
          go_cut [5] (fun s5 wx => ∃ k : Nat, q1 ≤ k ∧ k ≤ s.size ∧ Hid (TwDw s q1 k) ∧ s5 = .int .i64 (k : Int) ∧ wx = (w.alloc (.cells #[.bool false, .string ⟨#[]⟩, .string ⟨#[]⟩, .bool false, .string ⟨#[]⟩] 144)).alloc (.cells #[.bool neg, .string DB, .string ⟨#[]⟩, .bool false, .string ⟨#[]⟩] 144))
          case first =>
           go_wp2_with fail
           go_loop [5] (fun i => ∃ k : Nat, q1 ≤ k ∧ k ≤ s.size ∧ i = .int .i64 (k : Int) ∧ Hid (∀ j, q1 ≤ j → j < k → 48 ≤ cx s j ∧ cx s j ≤ 57)) (fun i => s.size - (intOf i).toNat)
           case atStart => exact ⟨q1, Nat.le_refl _, by omega, rfl, fun j a b => absurd a (by omega)⟩
           case round =>
            obtain ⟨k, hk0, hk, rfl, HK⟩ := hrel
            by_cases hlt : k < s.size
            ·have kI : (k : Int) < (s.size : Int) := by omega
             have hx := cx_at s k hlt
             have hb := cx_bd s k
             have hdig := fun w => digit_any (cx s k) w hb.1 hb.2
             by_cases hdg : 48 ≤ cx s k ∧ cx s k ≤ 57
             ·rw [show isDI (cx s k) = true from decide_eq_true hdg] at hdig
              have HK2 : Hid (∀ j, q1 ≤ j → j < k + 1 → 48 ≤ cx s j ∧ cx s j ≤ 57) := fun j a b => by
               by_cases e : j = k
               ·rw [e]; exact hdg
               ·exact HK.out j a (by omega)
              clear HK hdg
              generalize cx s k = y at *
              go_wp2_with (go_at_call 111; refine (hdig _).mono ?_; rintro e w' ⟨rfl, rfl⟩)
              go_round
              case rel => exact ⟨k + 1, by omega, by omega, by go_num, HK2.out⟩
              case measure => simp [intOf] <;> omega
             ·rw [show isDI (cx s k) = false from decide_eq_false hdg] at hdig
              have HE : Hid (TwDw s q1 k) := twdw_of hk0 hk HK.out (fun _ => hdg)
              clear HK hdg
              generalize cx s k = y at *
              go_wp2_with (go_at_call 111; refine (hdig _).mono ?_; rintro e w' ⟨rfl, rfl⟩)
              go_meet
              case rel => exact ⟨k, hk0, hk, HE.out, rfl, rfl⟩
            ·have HE : Hid (TwDw s q1 k) := twdw_of hk0 hk HK.out (fun h => absurd h hlt)
             have kd : decide (k < s.size) = false := decide_eq_false hlt
             clear HK hlt
             go_wp2_with fail
             go_meet
             case rel => exact ⟨k, hk0, hk, HE.out, rfl, rfl⟩
          case rest =>
           obtain ⟨k3, h13, hk3, HE3, rfl, rfl⟩ := hcut
           have hIF : s.extract q1 k3 = bs (tw (s.data.toList.drop q1)) := HE3.out.mid
           cases hFe : tw (s.data.toList.drop q1) with
           | nil =>
            rw [hFe] at hIF
            have hb0 : bs [] = ⟨#[]⟩ := rfl
            rw [hb0] at hIF
            have HN : Hid (cutL s.data.toList = none) := HC.out.frac_none hff (by rw [← Hq1.out]; exact hFe)
            clear hFe
            go_wp2
            refine bodyPost_ret (v := .tuple #[.agg #[.bool neg, .string DB, .string ⟨#[]⟩, .bool false, .string ⟨#[]⟩], .bool false]) ?_ rfl ?_
            ·simp [results, Tryz.results91, go_sem]
            ·exact ⟨_, _, _, _, _, _, rfl, .inl ⟨HN.out, rfl⟩, (by with_reducible repeat (first | exact Below.refl _ _ | refine bl_d ?_ | refine bl_n ?_ _ | refine bl_a ?_ _ | refine bl_s ?_ (by omega) _))⟩
           | cons c0 t0 =>
            have hFn := toList_ne (s := bs (c0 :: t0)) (by rw [bs_size]; simp)
            rw [hFe] at hIF
            have HF : Hid (CutF s k3 neg DB (bs (c0 :: t0))) := HC.out.frac_some hff (by rw [← Hq1.out]; exact hFe) (by rw [← Hq1.out]; exact HE3.out)
            clear hFe
            generalize bs (c0 :: t0) = FB at *
            go_wp2
            go_meet
            case rel => exact ⟨k3, FB, hk3, HF.out, rfl, rfl⟩
       case rest =>
        obtain ⟨i2, FB, h2s, HC2, rfl, rfl⟩ := hcut
        refine (by assumption : ∀ (a : Act) (w : World), Code.wp Tryz.prog _ _ a w → _) _ _ ?_
        exact rcut_exp s w hs i2 h2s neg DB FB HC2.out _ _ _ _ _ _ _ _ _ _ _ _ _ _ _ _ _ _ _ _ _ _ _ _ _ _ _ _ _ _ _ _ _ _ _ _ _ _ _ _ _ _ _ _ _ _ _ _ _ _ _ _ _ _ _ _ _ _ _ _ _ _ _ _ _ _ _ _ _ _ _ _ _ _ _ _ _ _ _ _ _ _ _ _ _ _ _ _ _ _ _ _ _ _ _ _ _ _ _ _ _ _ _ _ _ _ _ _ _ _ _ _ _ _ _ _ _ _ _ _ _ _ _ _ _ _ _ _ _ _ _ _ _ _ _ _ _ _ _ _ _ _ _ _ _ _ _ _ _ _ _
     ·have HN : Hid (cutL s.data.toList = none) := HM.out.int_none HDB.out hbad
      clear hbad
      go_wp2
      refine bodyPost_ret (v := .tuple #[.agg #[.bool neg, .string DB, .string ⟨#[]⟩, .bool false, .string ⟨#[]⟩], .bool false]) ?_ rfl ?_
      ·simp [results, Tryz.results91, go_sem]
      ·exact ⟨_, _, _, _, _, _, rfl, .inl ⟨HN.out, rfl⟩, (by with_reducible repeat (first | exact Below.refl _ _ | refine bl_d ?_ | refine bl_n ?_ _ | refine bl_a ?_ _ | refine bl_s ?_ (by omega) _))⟩
end Go.Proofs.YtfoehebnmommfaaGreatDoor
