/-
  What ref.length, ref.second, ref.step and ref.Good answer: the same step, and the same good beginning. No condition.
  What ref.Good and ref.Points answer: the same good beginning, and the same code points. Conditions: the text is at most 2^44 bytes long.
  What ref4.text answers: the string behind a quote, or the bad length: the same as lex.text. Conditions: the bytes lie in memory, at most 2^47 - 4096 of them.
-/
import Derived.Test.YtfoehebnmommfaaGreatDoorJoined2
import Derived.Test.YtfoehebnmommfaaGreatDoorJoined26
import Derived.Test.YtfoehebnmommfaaGreatDoorJoined9
import Derived.Deep.DeepCutAuto
import Derived.Deep.LoopGhost
import Derived.Deep.CutBlock
namespace Go.Proofs.YtfoehebnmommfaaGreatDoor.Lx
open Go.RowKit

set_option maxHeartbeats 400000 in
theorem rlength_any (c : Int) (w : World) :
  Calls Tryz.prog 109 #[.int .u8 c] w fun e w' => e = .returned (.int .i64 (stN c)) ∧ w = w' := by
 go_enter Tryz.func109, Tryz.ntmps109
 go_wp2
 all_goals go_ret
 all_goals refine ⟨ret_int ?_, rfl⟩
 all_goals unfold stN
 all_goals repeat' split
 all_goals omega
theorem secB_mk (c d : Int) (x : Bool) (lo hi : Int) (h1 : (if c = 224 then (160 : Int) else if c = 240 then 144 else 128) = lo) (h2 : (if c = 237 then (159 : Int) else if c = 244 then 143 else 191) = hi)
  (h : x = true ↔ (lo ≤ d ∧ d ≤ hi)) : x = secB c d := by
 rw [Bool.eq_iff_iff, h, secB_iff, h1, h2]
set_option maxHeartbeats 400000 in
theorem second_any (c d : Int) (w : World) :
  Calls Tryz.prog 110 #[.int .u8 c, .int .u8 d] w fun e w' => e = .returned (.bool (secB c d)) ∧ w = w' := by
 by_cases h1 : c = 224
 ·subst h1
  go_enter Tryz.func110, Tryz.ntmps110
  go_wp2
  all_goals go_ret
  all_goals refine ⟨ret_bool (secB_mk 224 d _ 160 191 rfl rfl ?_), rfl⟩
  all_goals (try simp only [decide_eq_true_iff, Bool.false_eq_true, false_iff])
  all_goals omega
 ·by_cases h2 : c = 237
  ·subst h2
   go_enter Tryz.func110, Tryz.ntmps110
   go_wp2
   all_goals go_ret
   all_goals refine ⟨ret_bool (secB_mk 237 d _ 128 159 rfl rfl ?_), rfl⟩
   all_goals (try simp only [decide_eq_true_iff, Bool.false_eq_true, false_iff])
   all_goals omega
  ·by_cases h3 : c = 240
   ·subst h3
    go_enter Tryz.func110, Tryz.ntmps110
    go_wp2
    all_goals go_ret
    all_goals refine ⟨ret_bool (secB_mk 240 d _ 144 191 rfl rfl ?_), rfl⟩
    all_goals (try simp only [decide_eq_true_iff, Bool.false_eq_true, false_iff])
    all_goals omega
   ·by_cases h4 : c = 244
    ·subst h4
     go_enter Tryz.func110, Tryz.ntmps110
     go_wp2
     all_goals go_ret
     all_goals refine ⟨ret_bool (secB_mk 244 d _ 128 143 rfl rfl ?_), rfl⟩
     all_goals (try simp only [decide_eq_true_iff, Bool.false_eq_true, false_iff])
     all_goals omega
    ·have k1 : (c == 224) = false := by simpa using h1
     have k2 : (c == 237) = false := by simpa using h2
     have k3 : (c == 240) = false := by simpa using h3
     have k4 : (c == 244) = false := by simpa using h4
     have HM : Hid (∀ x : Bool, (x = true ↔ (128 ≤ d ∧ d ≤ 191)) → x = secB c d) := fun x h => secB_mk c d x 128 191 (by rw [if_neg h1, if_neg h3]) (by rw [if_neg h2, if_neg h4]) h
     clear h1 h2 h3 h4
     go_enter Tryz.func110, Tryz.ntmps110
     go_wp2
     all_goals go_ret
     all_goals refine ⟨ret_bool (HM.out _ ?_), rfl⟩
     all_goals (try simp only [decide_eq_true_iff, Bool.false_eq_true, false_iff])
     all_goals omega
set_option maxHeartbeats 1000000 in
theorem rstep_any (b off len cap p : Nat) (f : Nat → Int) (w : World) (hL : Lies w b off len f) (hp : p < len) (hm : len ≤ maxLen) :
  Calls Tryz.prog 90 #[.slice (some ⟨b, off, none⟩) len cap, .int .i64 (p : Int)] w fun e w' => e = .returned (.tuple #[.int .i64 ((stepF (len - p) fun i => f (p + i)).1 : Nat), .bool (stepF (len - p) fun i => f (p + i)).2]) ∧ w = w' := by
 unfold maxLen at hm
 have c0 : w.cell? ⟨b, off + p, none⟩ = some (.int .u8 (f p)) := hL.cell p hp
 have hpI : (p : Int) < (len : Int) := by omega
 have hl := fun w => rlength_any (f p) w
 by_cases hz : stN (f p) = 0
 ·have hs := stepF_none (len - p) (fun i => f (p + i)) hz
  rw [hs]
  rw [hz] at hl
  clear hs hz
  go_enter Tryz.func90, Tryz.ntmps90
  go_wp2_with (go_at_call 109; refine (hl _).mono ?_; rintro e w' ⟨rfl, rfl⟩)
  go_ret2
  exact ⟨rfl, rfl⟩
 ·have b0 := hL.lo p
  have b1 := hL.hi p
  obtain ⟨z1, n1, n4, z2⟩ := first_good (f p) b0 b1 hz
  clear z1 z2
  obtain ⟨n, hn⟩ : ∃ n : Nat, (n : Int) = stN (f p) := ⟨(stN (f p)).toNat, by omega⟩
  rw [← hn] at hl n1 n4
  have HN : Hid ((n : Int) = stN ((fun i => f (p + i)) 0)) := hn
  have HZ : Hid (stN ((fun i => f (p + i)) 0) ≠ 0) := hz
  have HP := stepF_part (len - p) (fun i => f (p + i)) b0 b1
  have HW := stepF_whole (len - p) (fun i => f (p + i)) b0 b1 HZ.out
  have hne : ((n : Int) == 0) = false := by simp; omega
  have hsec := fun d w => second_any (f p) d w
  have HPN := passed_next (len - p) (fun i => f (p + i))
  clear hn hz
  generalize hS : stepF (len - p) (fun i => f (p + i)) = S at *
  go_enter Tryz.func90, Tryz.ntmps90
  go_wp2_with (go_at_call 109; refine (hl _).mono ?_; rintro e w' ⟨rfl, rfl⟩)
  go_loop [7] (fun i => ∃ j : Nat, 1 ≤ j ∧ j ≤ n ∧ i = .int .i64 j ∧ Hid (passed (len - p) (fun i => f (p + i)) j)) (fun i => n - (intOf i).toNat)
  case atStart => exact ⟨1, by omega, by omega, rfl, passed_one _ _⟩
  case round =>
   obtain ⟨j, hj1, hjn, rfl, HJ⟩ := hrel
   by_cases hlt : j < n
   ·have hjs : (j : Int) < stN ((fun i => f (p + i)) 0) := by rw [← HN.out]; omega
    by_cases hle : p + j < len
    ·have cj : w.cell? ⟨b, off + (p + j), none⟩ = some (.int .u8 (f (p + j))) := hL.cell (p + j) hle
     have hle' : (p : Int) + (j : Int) < (len : Int) := by omega
     have hne' : ((p : Int) + (j : Int) == (len : Int)) = false := by simp; omega
     by_cases hj : j = 1
     ·subst hj
      have ga : (p : Int) + 1 < (len : Int) := by omega
      have gb : ((p : Int) + 1 == (len : Int)) = false := by simp; omega
      have gc : (1 : Int) < (n : Int) := by omega
      clear hle' hne'
      cases hs : secB (f p) (f (p + 1))
      ·have HF : Hid (S = (1, false)) := by
        show S = _
        rw [HP 1 (by omega) hjs HJ.out (.inr (.inr (by simpa [okAt] using hs)))]
       have h2 := hsec (f (p + 1))
       rw [hs] at h2
       clear hs HP HW HPN hjs
       go_wp2_with (go_at_call 110; refine (h2 _).mono ?_; rintro e w' ⟨rfl, rfl⟩)
       go_ret2
       exact ⟨ret_ib (by rw [HF.out]; rfl) (by rw [HF.out]), rfl⟩
      ·have HF : Hid (passed (len - p) (fun i => f (p + i)) 2) := HPN 1 (by omega) (by omega) (secB_fol _ _ hs) (by simpa [okAt] using hs) HJ.out
       have h2 := hsec (f (p + 1))
       rw [hs] at h2
       clear hs HP HW HPN hjs
       go_wp2_with (go_at_call 110; refine (h2 _).mono ?_; rintro e w' ⟨rfl, rfl⟩)
       go_round
       case rel => exact ⟨2, by omega, by omega, rfl, HF⟩
       case measure => simp [intOf]; omega
     ·have hj2 : (1 : Int) < (j : Int) := by omega
      have hjE : ((j : Int) == 1) = false := by simp; omega
      have hok : okAt (fun i => f (p + i)) j = true := by simp [okAt, hj]
      by_cases k1 : f (p + j) < 128
      ·have HF : Hid (S = (j, false)) := by
        show S = _
        rw [HP j hj1 hjs HJ.out (.inr (.inl (by rw [← Bool.not_eq_true, folB_iff]; omega)))]
       clear HP HW HPN hjs hok
       go_wp2
       go_ret2
       exact ⟨ret_ib (by rw [HF.out]) (by rw [HF.out]), rfl⟩
      ·by_cases k2 : 191 < f (p + j)
       ·have HF : Hid (S = (j, false)) := by
         show S = _
         rw [HP j hj1 hjs HJ.out (.inr (.inl (by rw [← Bool.not_eq_true, folB_iff]; omega)))]
        clear HP HW HPN hjs hok
        go_wp2
        go_ret2
        exact ⟨ret_ib (by rw [HF.out]) (by rw [HF.out]), rfl⟩
       ·have HF : Hid (passed (len - p) (fun i => f (p + i)) (j + 1)) := HPN j hj1 (by omega) (by rw [folB_iff]; omega) hok HJ.out
        clear HP HW HPN hjs hok
        go_wp2
        go_round
        case rel => exact ⟨j + 1, by omega, by omega, by go_num, HF⟩
        case measure => simp [intOf]; omega
    ·have HF : Hid (S = (j, false)) := by
      show S = _
      rw [HP j hj1 hjs HJ.out (.inl (by omega))]
     have hjl : ((p : Int) + (j : Int) == (len : Int)) = true := by
      obtain ⟨q2, q3, q4⟩ := HJ.out
      simp; omega
     have hub : p + j ≤ len := by
      obtain ⟨q2, q3, q4⟩ := HJ.out
      omega
     clear HP HW HPN hjs
     go_wp2
     go_ret2
     exact ⟨ret_ib (by rw [HF.out]) (by rw [HF.out]), rfl⟩
   ·have e : j = n := by omega
    subst e
    have HF : Hid (S = (j, true)) := by
     show S = _
     rw [HW j HN.out HJ.out]
    clear HP HW HPN
    go_wp2
    go_ret2
    exact ⟨ret_ib (by rw [HF.out]) (by rw [HF.out]), rfl⟩
end Go.Proofs.YtfoehebnmommfaaGreatDoor.Lx

namespace Go.Proofs.YtfoehebnmommfaaGreatDoor.Lx
open Go.RowKit

set_option maxHeartbeats 400000 in
theorem rgood_some (b off len cap : Nat) (f : Nat → Int) (w : World) (hL : Lies w b off len f) (hc : len ≤ cap) (hm : cap ≤ maxLen) :
  Calls Tryz.prog 61 #[.slice (some ⟨b, off, none⟩) len cap] w fun e w' => e = .returned (.tuple #[.int .i64 ((good len f).1 : Nat), .bool (good len f).2]) ∧ w = w' := by
 unfold maxLen at hm
 go_enter Tryz.func61, Tryz.ntmps61
 go_wp2
 go_loop [4] (fun t => ∃ p k : Nat, p ≤ len ∧ t = .int .i64 p ∧ len ≤ p + k ∧ Hid (goodF len f k p = good len f)) (fun t => len - (intOf t).toNat)
 case atStart => exact ⟨0, len, by omega, rfl, by omega, (rfl : goodF len f len 0 = good len f)⟩
 case round =>
  obtain ⟨p, k, hp, rfl, hk, HG⟩ := hrel
  by_cases hlt : p < len
  ·obtain ⟨k', rfl⟩ : ∃ k', k = k' + 1 := ⟨k - 1, by omega⟩
   have hb := rstep_any b off len cap p f w hL hlt (by unfold maxLen; omega)
   have s1 := stepF_le (len - p) (fun i => f (p + i)) (by omega)
   have hG := HG.out
   clear HG
   unfold goodF at hG
   rw [if_neg (by omega)] at hG
   have s2 := stepF_pos (len - p) (fun i => f (p + i))
   generalize stepF (len - p) (fun i => f (p + i)) = s at *
   obtain ⟨a, t⟩ := s
   cases t
   ·have hF : (p + a, false) = good len f := by simpa using hG
    have HF : Hid ((p + a, false) = good len f) := hF
    clear hF hG s2
    go_wp2_with (go_at_call 90; refine hb.mono ?_; rintro e w' ⟨rfl, rfl⟩)
    go_ret2
    exact ⟨ret_ib (by rw [← HF.out]; rfl) (by rw [← HF.out]), rfl⟩
   ·have hF : goodF len f k' (p + a) = good len f := by simpa using hG
    have HF : Hid (goodF len f k' (p + a) = good len f) := hF
    have s3 : 1 ≤ a := s2 rfl
    have s4 : a ≤ len - p := s1
    clear hF hG s2 s1
    go_wp2_with (go_at_call 90; refine hb.mono ?_; rintro e w' ⟨rfl, rfl⟩)
    go_round
    case rel => exact ⟨p + a, k', by omega, by go_num, by omega, HF⟩
    case measure => simp [intOf]; omega
  ·have e : p = len := by omega
   subst e
   have HF : Hid ((p, true) = good p f) := by
    have := HG.out
    cases k
    ·exact this
    ·unfold goodF at this; rw [if_pos (by omega)] at this; exact this
   clear HG
   go_wp2
   go_ret2
   exact ⟨ret_ib (by rw [← HF.out]) (by rw [← HF.out]), rfl⟩
set_option maxHeartbeats 400000 in
theorem rgood_any (v : Value) (len : Nat) (f : Nat → Int) (w : World) (hR : Row w v len f) :
  Calls Tryz.prog 61 #[v] w fun e w' => e = .returned (.tuple #[.int .i64 ((good len f).1 : Nat), .bool (good len f).2]) ∧ w = w' := by
 rcases hR with ⟨rfl, a, cap, rfl, _⟩ | ⟨b, off, cap, rfl, hc, hm, hL⟩
 ·go_enter Tryz.func61, Tryz.ntmps61
  go_wp2
  refine wp_loop_rounds 1 ?_
  rw [rounds_succ]
  go_wp2
  go_ret2
  exact ⟨rfl, rfl⟩
 ·exact rgood_some b off len cap f w hL hc hm
end Go.Proofs.YtfoehebnmommfaaGreatDoor.Lx

namespace Go.Proofs.YtfoehebnmommfaaGreatDoor.Lx
open Go.RowKit
attribute [local go_sem] setCell_drewN alloc_drewN

def rtxV : Tk → Value
 | .ok t => .tuple #[.string ⟨t.text.toArray⟩, .int .i64 t.to, .int .i64 0]
 | .error n => .tuple #[.string ⟨#[]⟩, .int .i64 0, .int .i64 n]
theorem escL_pt {l : List UInt8} {i p k : Nat} (h : escL l i = .ok (p, k)) : ptB (p : Int) = true ∧ p ≤ 1114111 := by
 unfold escL at h
 split at h
 ·have e := (Prod.mk.inj (Except.ok.inj h)).1
  have hv : meanV (bx l i) < 128 ∧ 0 ≤ meanV (bx l i) := by
   unfold meanV
   repeat' split
   all_goals omega
  exact ⟨(ptB_iff _).2 (by omega), by omega⟩
 ·split at h
  ·cases hu : unitL l false (i + 1) with
   | error n => rw [hu] at h; cases h
   | ok r =>
    rw [hu] at h
    simp only [afterU] at h
    have a := unitL_not hu
    split at h
    ·rename_i g
     have b := pairL_le h g.1 g.2
     simp only at b
     exact ⟨(ptB_iff _).2 (by omega), b.2.1⟩
    ·have e := Except.ok.inj h
     rw [e] at a
     rename_i g
     rw [e] at g
     simp only at a g
     exact ⟨(ptB_iff _).2 (by omega), by omega⟩
  ·cases h
theorem pairL_error {l : List UInt8} {i high n : Nat} (h : pairL l i high = .error n) : 0 < n := by
 unfold pairL at h
 cases hs : spelledL l i [92, 117] with
 | error m => rw [hs] at h; exact Except.error.inj h ▸ spelledL_error _ hs
 | ok j =>
  rw [hs] at h
  simp only at h
  cases hu : unitL l true j with
  | error m => rw [hu] at h; exact Except.error.inj h ▸ unitL_error hu
  | ok r => rw [hu] at h; cases h
theorem escL_error {l : List UInt8} {i n : Nat} (h : escL l i = .error n) : 0 < n := by
 unfold escL at h
 split at h
 ·cases h
 ·split at h
  ·cases hu : unitL l false (i + 1) with
   | error m => rw [hu] at h; exact Except.error.inj h ▸ unitL_error hu
   | ok r =>
    rw [hu] at h
    simp only [afterU] at h
    split at h
    ·exact pairL_error h
    ·cases h
  ·have := Except.error.inj h; omega
theorem own_put {w : World} {base : Nat} {v : Value} {out : List UInt8} {p : Nat} (hp : p ≤ 1114111) (h : w.ownsRow base 5 1 v (out.length + encN p) (vals (out.length + encN p) (catF out.length (bx out) (encF p)))) : w.ownsRow base 5 1 v (out ++ encL p).length (cellsL (out ++ encL p)) := by
 refine own_cat (n := out.length) (m := encN p) rfl (encL_length p).symm ?_
 have e : vals (encN p) (encF p) = vals (encN p) (bx (encL p)) := by
  unfold vals
  apply List.map_congr_left
  intro i hi
  rw [bx_enc p hp i (List.mem_range.1 hi)]
 rw [← vals_cat, vals_bx, e] at h
 exact h
theorem byt_lies {w : World} {b off cap : Nat} {l : List UInt8} (h : Byt w (.slice (some ⟨b, off, none⟩) l.length cap) l) (h0 : 0 < l.length) : Lies w b off l.length (bx l) ∧ l.length ≤ cap ∧ cap ≤ maxLen := by
 rcases h with ⟨h, _⟩ | ⟨b2, off2, cap2, e, hc, hm, hL⟩
 ·omega
 ·simp only [Value.slice.injEq, Option.some.injEq, Addr.mk.injEq, and_true, true_and] at e
  obtain ⟨⟨rfl, rfl⟩, rfl⟩ := e
  exact ⟨hL, hc, hm⟩
def tried (m : Nat) (ok : Bool) (k x : Nat) (o : Bool) : Prop :=
 (ok = false → o = false ∧ x = min (k - 1) m) ∧ (ok = true → (k ≤ m ∧ o = false ∧ x = k - 1) ∨ (k = m + 1 ∧ o = true ∧ x = m))
theorem tried_end {m n k x : Nat} {ok o : Bool} (h : tried m ok k x o) (hmn : m ≤ n) (hk : k = n + 1 ∨ o = true) : x = m ∧ o = ok := by
 cases ok
 ·have a := h.1 rfl
  rcases hk with hk | hk
  ·exact ⟨by omega, a.1⟩
  ·rw [a.1] at hk; cases hk
 ·rcases h.2 rfl with ⟨a, b, c⟩ | ⟨a, b, c⟩
  ·rcases hk with hk | hk
   ·omega
   ·rw [b] at hk; cases hk
  ·exact ⟨c, b⟩
theorem tried_next {r m n k x : Nat} {ok : Bool} {f : Nat → Int} (h : tried m ok k x false) (hs : stepF r f = (m, ok)) (l : ∀ i, 0 ≤ f i) (u : ∀ i, f i < 256) (hk : 1 ≤ k) (hkn : k ≤ n) (hn : n ≤ r) : ∃ x2 o2, good k f = (x2, o2) ∧ tried m ok (k + 1) x2 o2 := by
 cases ok
 ·exact ⟨_, _, try_bad r f m k hs (l 0) (u 0) hk (by omega), ⟨fun _ => ⟨rfl, by omega⟩, fun h => by cases h⟩⟩
 ·rcases h.2 rfl with ⟨a, _, _⟩ | ⟨_, b, _⟩
  ·by_cases e : k = m
   ·subst e
    exact ⟨_, _, try_eq r f k hs l u, ⟨fun h => (by cases h), fun _ => .inr ⟨rfl, rfl, rfl⟩⟩⟩
   ·exact ⟨_, _, try_lt r f m k hs (l 0) (u 0) hk (by omega), ⟨fun h => (by cases h), fun _ => .inl ⟨by omega, rfl, by omega⟩⟩⟩
  ·cases b
set_option maxRecDepth 100000 in
set_option maxHeartbeats 12800000 in
theorem rtext_any (l : List UInt8) (i : Nat) (v : Value) (w : World) (hB : Byt w v l) (hi : i < l.length) (hm : l.length ≤ 140737488351232) :
  Calls Tryz.prog 38 #[v, .int .i64 ((i : Int) + 1)] w fun r w' => r = .returned (rtxV (textL l i)) ∧ Below w.heap.size w w' := by
 have h0 : 0 < l.length := by omega
 obtain ⟨b, off, cap, ev, hc, hm'⟩ : ∃ b off cap, v = .slice (some ⟨b, off, none⟩) l.length cap ∧ l.length ≤ cap ∧ cap ≤ maxLen := by
  rcases hB with ⟨h, _⟩ | ⟨b, off, cap, e, hc, hm', _⟩
  ·omega
  ·exact ⟨b, off, cap, e, hc, hm'⟩
 subst ev
 have hcI : (cap : Int) ≤ 9223372036854775807 := by unfold maxLen at hm'; omega
 have hcI2 : (l.length : Int) ≤ (cap : Int) := by omega
 have hlI : (l.length : Int) ≤ 140737488351232 := by omega
 go_enter Tryz.func38, Tryz.ntmps38
 go_wp2_with fail
 go_loopg [1, 7] (l.length - (i + 1)) (fun g t u wr => ∃ (at_ : Nat) (out : List UInt8), t = .int .i64 (at_ : Int) ∧ at_ ≤ l.length ∧ g = l.length - at_ ∧ out.length ≤ at_ ∧ wr.ownsRow w.heap.size 5 1 u out.length (cellsL out) ∧ Hid (textT l i at_ out = textL l i) ∧ Below w.heap.size w wr)
 case atStart => exact ⟨i + 1, [], by go_num, by omega, rfl, by simp, World.ownsRow_nil _ _ _ _, rfl, Below.refl _ _⟩
 case round =>
  obtain ⟨at_, out, rfl, hal, rfl, ho, hown, HP, hbel⟩ := hrel
  have hBr := hB.below hbel
  have hLr := (byt_lies hBr h0).1
  by_cases hlt : at_ < l.length
  ·have hcell := hLr.cell at_ hlt
   have hI : (at_ : Int) < (l.length : Int) := by omega
   by_cases c34 : bx l at_ = 34
   ·have HR : Hid (textL l i = .ok ⟨1, out, i, at_ + 1⟩) := by show _ = _; rw [← HP.out, textT_quote hlt c34]
    have hconv := conv_list wr _ out (own_byt hown)
    rw [c34] at hcell
    clear c34 HP hLr hBr
    go_wp2
    go_ret3
    exact ⟨r_pl (by rw [HR.out]; simp [rtxV]), hbel⟩
   ·have n34 : (bx l at_ == 34) = false := beq_eq_false_iff_ne.2 c34
    by_cases c32 : bx l at_ < 32
    ·have HR : Hid (textL l i = .error (at_ + 1)) := by show _ = _; rw [← HP.out, textT_low hlt c32]
     clear c34 HP hLr hBr
     generalize bx l at_ = c at *
     go_wp2
     go_ret3
     exact ⟨r_pl (by rw [HR.out]; simp [rtxV]), hbel⟩
    ·have n32 : decide (bx l at_ < 32) = false := decide_eq_false c32
     by_cases c92 : bx l at_ = 92
     ·have hT := textT_back (fr := i) (out := out) hlt c92
      rw [escape_of (by rw [hasAt_in _ hlt, c92]; rfl)] at hT
      have h1 := rescape_any l (at_ + 1) _ wr hBr h0 (by omega) (by omega)
      have e1 : ((at_ + 1 : Nat) : Int) = (at_ : Int) + 1 := by omega
      rw [e1] at h1
      rw [c92] at hcell
      have hea := fun t k => escapeL_le (l := l) (i := at_) (t := t) (k := k)
      rw [escape_of (by rw [hasAt_in _ hlt, c92]; rfl)] at hea
      clear c34 n34 c32 n32 c92 e1
      cases hx : escL l (at_ + 1) with
      | error n =>
       rw [hx] at hT h1
       simp only [runV] at h1
       have hn0 : (0 : Int) < (n : Int) := by have := escL_error hx; omega
       have HR : Hid (textL l i = .error n) := by show _ = _; rw [← HP.out, hT]
       clear hx hT HP hea hLr hBr
       go_wp2_with (go_at_call 59; refine h1.mono ?_; rintro r w' ⟨rfl, q, rfl⟩)
       go_ret3
       exact ⟨r_pl (by rw [HR.out]; simp [rtxV]), bl_n hbel _⟩
      | ok r =>
       obtain ⟨p, k⟩ := r
       have hpt := escL_pt hx
       rw [hx] at hT h1 hea
       simp only [runV] at h1
       simp only at hT
       have hek := hea _ _ rfl
       rw [encL_length] at hek
       have HR : Hid (textT l i k (out ++ encL p) = textL l i) := by show _ = _; rw [← HP.out, hT]
       have h2 := fun q => rput_ok _ out.length (bx out) (p : Int) (wr.drewN q) hpt.1 (Row.below (own_byt hown) (bl_n (Below.refl _ _) q)) (by omega)
       have hpl := hpt.2
       clear hx hT HP hea hLr hBr hpt hown
       go_wp2_with (first | (go_at_call 59; refine h1.mono ?_; rintro r w' ⟨rfl, q, rfl⟩) | (go_at_call 60; refine (h2 _).mono ?_; rintro r w' ⟨u2, rfl, hown2, hb2⟩))
       go_roundg (l.length - k)
       case measure => omega
       case rel => exact ⟨k, out ++ encL p, rfl, hek.2.1, rfl, by rw [List.length_append, encL_length]; omega, own_put hpl (own_mono hown2 (by have := hbel.size; simpa using this)), HR, bl_t (bl_n hbel q) hb2⟩
     ·have n92 : (bx l at_ == 92) = false := beq_eq_false_iff_ne.2 c92
      have hplain : plainB (bx l at_) = true := by
       unfold plainB
       rw [n34, n92]
       simp
       omega
      have HT := textT_step (fr := i) (out := out) hlt hplain
      obtain ⟨m, ok, hst⟩ : ∃ m ok, stepL l at_ = (m, ok) := ⟨_, _, rfl⟩
      rw [hst, HP.out] at HT
      simp only at HT
      unfold stepL at hst
      obtain ⟨m4, mr, mah⟩ := step_ahead (l.length - at_) (fun j => bx l (at_ + j)) m ok hst (bx_lo _ _) (bx_hi _ _) (by omega)
      simp only [Nat.add_zero] at mah
      have HM : Hid (∀ j, 1 ≤ j → j < m → folB (bx l (at_ + j)) = true ∧ 192 ≤ bx l at_) := mah
      have HS : Hid (stepF (l.length - at_) (fun j => bx l (at_ + j)) = (m, ok)) := hst
      have HPOS : Hid (ok = true → 1 ≤ m) := fun e => by
       have := stepF_pos (l.length - at_) (fun j => bx l (at_ + j)) (by rw [hst]; exact e)
       rw [hst] at this
       exact this
      have HT2 : Hid (textL l i = if ok = true then textT l i (at_ + m) (out ++ sub l at_ (at_ + m)) else .error (at_ + m + 1)) := HT
      clear HT mah hst HP c34 c32 c92 hplain
      have hacI : (at_ : Int) < (cap : Int) := by omega
      go_upto_block 3 with fail
      go_cut [12] (fun s12 wx => ∃ n : Nat, 1 ≤ n ∧ n ≤ 4 ∧ m ≤ n ∧ at_ + n ≤ l.length ∧ s12 = .int .i64 (n : Int) ∧ wr = wx)
      case first =>
       go_wp2_with fail
       go_loopg [12] 3 (fun g s12 wx => ∃ n : Nat, 1 ≤ n ∧ n ≤ 4 ∧ g = 4 - n ∧ at_ + n ≤ l.length ∧ s12 = .int .i64 (n : Int) ∧ wr = wx)
       case atStart => exact ⟨1, by omega, by omega, rfl, by omega, rfl, rfl⟩
       case round =>
        obtain ⟨n, hn1, hn4, rfl, hnl, rfl, rfl⟩ := hrel
        by_cases h4 : n < 4
        ·have h4I : (n : Int) < 4 := by omega
         by_cases hin2 : at_ + n < l.length
         ·have hcell2 := hLr.cell (at_ + n) hin2
          have hinI : (at_ : Int) + (n : Int) < (l.length : Int) := by omega
          have hin0 : (0 : Int) ≤ (at_ : Int) + (n : Int) := by omega
          have hnat : ((at_ : Int) + (n : Int)).toNat = at_ + n := by omega
          by_cases a1 : 128 ≤ bx l (at_ + n)
          ·by_cases a2 : bx l (at_ + n) ≤ 191
           ·by_cases a3 : 192 ≤ bx l at_
            ·clear HM HS HPOS HT2 hown hbel ho
             generalize bx l (at_ + n) = y at *
             generalize bx l at_ = c at *
             go_wp2
             go_roundg (4 - (n + 1))
             case measure => omega
             case rel => exact ⟨n + 1, by omega, by omega, rfl, by omega, by go_num, rfl⟩
            ·have d : decide (192 ≤ bx l at_) = false := decide_eq_false a3
             have hmn : m ≤ n := Nat.le_of_not_lt fun h => a3 (HM.out n hn1 h).2
             clear HM HS HPOS HT2 hown hbel ho a3
             generalize bx l (at_ + n) = y at *
             generalize bx l at_ = c at *
             go_wp2
             go_meet
             exact ⟨n, hn1, hn4, hmn, hnl, rfl, rfl⟩
           ·have d : decide (bx l (at_ + n) ≤ 191) = false := decide_eq_false a2
            have hmn : m ≤ n := Nat.le_of_not_lt fun h => a2 ((folB_iff _).1 (HM.out n hn1 h).1).2
            clear HM HS HPOS HT2 hown hbel ho a2
            generalize bx l (at_ + n) = y at *
            go_wp2
            go_meet
            exact ⟨n, hn1, hn4, hmn, hnl, rfl, rfl⟩
          ·have d : decide (128 ≤ bx l (at_ + n)) = false := decide_eq_false a1
           have hmn : m ≤ n := Nat.le_of_not_lt fun h => a1 ((folB_iff _).1 (HM.out n hn1 h).1).1
           clear HM HS HPOS HT2 hown hbel ho a1
           generalize bx l (at_ + n) = y at *
           go_wp2
           go_meet
           exact ⟨n, hn1, hn4, hmn, hnl, rfl, rfl⟩
         ·have d : decide ((at_ : Int) + (n : Int) < (l.length : Int)) = false := decide_eq_false (by omega)
          have hmn : m ≤ n := by omega
          clear HM HS HPOS HT2 hown hbel ho hin2
          go_wp2
          go_meet
          exact ⟨n, hn1, hn4, hmn, hnl, rfl, rfl⟩
        ·have d : decide ((n : Int) < 4) = false := decide_eq_false (by omega)
         have hmn : m ≤ n := by omega
         clear HM HS HPOS HT2 hown hbel ho h4
         go_wp2
         go_meet
         exact ⟨n, hn1, hn4, hmn, hnl, rfl, rfl⟩
      case rest =>
       obtain ⟨n, hn1, hn4, hmn, hnl, rfl, rfl⟩ := hcut
       go_upto_block 5 with fail
       go_cut [13, 14, 15] (fun s13 s14 _ wx => s13 = .int .i64 (m : Int) ∧ s14 = .bool ok ∧ wr = wx)
       case first =>
        go_wp2_with fail
        go_loopg [13, 14, 15] n (fun g s13 s14 s15 wx => ∃ (k x : Nat) (o : Bool), 1 ≤ k ∧ k ≤ n + 1 ∧ g = n + 1 - k ∧ s15 = .int .i64 (k : Int) ∧ s13 = .int .i64 (x : Int) ∧ s14 = .bool o ∧ Hid (tried m ok k x o) ∧ wr = wx)
        case atStart => exact ⟨1, 0, false, by omega, by omega, by omega, rfl, rfl, rfl, ⟨fun _ => ⟨rfl, by simp⟩, fun e => .inl ⟨HPOS.out e, rfl, rfl⟩⟩, rfl⟩
        case round =>
         obtain ⟨k, x, o, hk1, hkn1, rfl, rfl, rfl, rfl, HJ, rfl⟩ := hrel
         by_cases hkn : k ≤ n
         ·have hknI : (k : Int) ≤ (n : Int) := by omega
          cases o
          ·obtain ⟨x2, o2, hgd, hj2⟩ := tried_next HJ.out HS.out (fun _ => bx_lo _ _) (fun _ => bx_hi _ _) hk1 hkn (show n ≤ l.length - at_ by omega)
           have HJ2 : Hid (tried m ok (k + 1) x2 o2) := hj2
           have hRk : Row wr (.slice (some ⟨b, off + at_, none⟩) k (cap - at_)) k (fun j => bx l (at_ + j)) := .inr ⟨b, off + at_, cap - at_, rfl, by omega, by omega, ⟨fun j hj => by rw [Nat.add_assoc]; exact hLr.cell (at_ + j) (by omega), fun _ => bx_lo _ _, fun _ => bx_hi _ _⟩⟩
           have h1 := rgood_any _ _ _ wr hRk
           rw [hgd] at h1
           simp only at h1
           have hakI : (at_ : Int) + (k : Int) ≤ (cap : Int) := by omega
           have hak0 : (at_ : Int) ≤ (at_ : Int) + (k : Int) := by omega
           have hnat : ((at_ : Int) + (k : Int)).toNat = at_ + k := by omega
           have hkb : (k : Int) ≤ 5 := by omega
           clear HJ hj2 hgd HS HPOS HT2 HM hown hbel ho hRk
           go_wp2_with (go_at_call 61; refine h1.mono ?_; rintro r w' ⟨rfl, rfl⟩)
           go_roundg (n + 1 - (k + 1))
           case measure => omega
           case rel => exact ⟨k + 1, x2, o2, by omega, by omega, rfl, by go_num, rfl, rfl, HJ2, rfl⟩
          ·obtain ⟨rfl, rfl⟩ := tried_end HJ.out hmn (.inr rfl)
           clear HJ HS HPOS HT2 HM hown hbel ho
           go_wp2
           go_meet
           exact ⟨rfl, rfl, rfl⟩
         ·have d : decide ((k : Int) ≤ (n : Int)) = false := decide_eq_false (by omega)
          have dI : ¬ (k : Int) ≤ (n : Int) := by omega
          obtain ⟨e1, e2⟩ := tried_end HJ.out hmn (.inl (by omega))
          subst e1
          subst e2
          clear HJ HS HPOS HT2 HM hown hbel ho
          go_wp2
          go_meet
          exact ⟨rfl, rfl, rfl⟩
       case rest =>
        obtain ⟨rfl, rfl, rfl⟩ := hcut
        clear HS
        cases ok
        ·have HR : Hid (textL l i = .error (at_ + m + 1)) := HT2.out
         have hmI : (m : Int) ≤ 4 := by omega
         clear HT2 HM HPOS hLr hBr hown
         go_wp2
         go_ret3
         exact ⟨r_pl (by rw [HR.out]; simp [rtxV]), hbel⟩
        ·have HR : Hid (textT l i (at_ + m) (out ++ sub l at_ (at_ + m)) = textL l i) := HT2.out.symm
         have hm1 : 1 ≤ m := HPOS.out rfl
         have hae : at_ ≤ at_ + m := by omega
         have hel : at_ + m ≤ l.length := by omega
         have hsl : (sub l at_ (at_ + m)).length = m := by rw [sub_length hae hel]; omega
         have hRk : Row wr (.slice (some ⟨b, off + at_, none⟩) m (cap - at_)) m (bx (sub l at_ (at_ + m))) := .inr ⟨b, off + at_, cap - at_, rfl, by omega, by omega, ⟨fun j hj => by rw [bx_sub (by omega), Nat.add_assoc]; exact hLr.cell (at_ + j) (by omega), fun _ => bx_lo _ _, fun _ => bx_hi _ _⟩⟩
         have hakI : (at_ : Int) + (m : Int) ≤ (cap : Int) := by omega
         have hak0 : (at_ : Int) ≤ (at_ : Int) + (m : Int) := by omega
         have hnat : ((at_ : Int) + (m : Int)).toNat = at_ + m := by omega
         have hmI : (m : Int) ≤ 4 := by omega
         clear HT2 HM HPOS hLr hBr hae
         go_wp2_with (at_builtin; refine wpList_append_row rfl (.tmp 83) (.tmp 89) rfl _ _ _ _ rfl hown _ m (bx (sub l at_ (at_ + m))) rfl hRk ?_ ?_ ?_)
         ·omega
         ·exact hbel.size
         ·intro v3 w3 hown3 hgrow3
          have hb3 := hbel.grown hgrow3 hbel.size (fun j hj => (hown.lt j hj).1)
          have own3 := own_cat rfl hsl.symm hown3
          clear hown hgrow3 hown3 hRk
          go_wp2
          go_roundg (l.length - (at_ + m))
          case measure => omega
          case rel => exact ⟨at_ + m, out ++ sub l at_ (at_ + m), by go_num, hel, rfl, by rw [List.length_append, hsl]; omega, own3, HR, hb3⟩
  ·obtain rfl : at_ = l.length := by omega
   have HR : Hid (textL l i = .error (l.length + 1)) := by show _ = _; rw [← HP.out, textT_end]
   have hI : ¬ (l.length : Int) < (l.length : Int) := by omega
   clear HP hLr hBr hown
   go_wp2
   go_ret3
   exact ⟨r_pl (by rw [HR.out]; simp [rtxV]), hbel⟩
end Go.Proofs.YtfoehebnmommfaaGreatDoor.Lx
