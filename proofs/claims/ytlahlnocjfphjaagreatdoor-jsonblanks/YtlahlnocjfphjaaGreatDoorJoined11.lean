/-
  What lex.spelled, lex.asItStands and lex.word answer. Conditions: the bytes lie in memory, at most 2^48 of them.
  What lex.word and lex.number answer. Conditions: the bytes lie in memory, at most 2^48 of them.
  What utf.Put and ref.Put answer: the bytes of a code point behind what stands there. Conditions: the table of greatest code points holds its four numbers; what stands there is at most 2^47 - 4096 bytes long.
-/
import Derived.Test.YtlahlnocjfphjaaGreatDoorJoined10
import Derived.Test.YtlahlnocjfphjaaGreatDoorJoined7
namespace Go.Proofs.YtlahlnocjfphjaaGreatDoor.Lx
open Go.RowKit
attribute [local go_sem] setCell_drewN alloc_drewN

/-- A part of a list. -/
def sub (l : List UInt8) (a e : Nat) : List UInt8 := (l.drop a).take (e - a)
theorem sub_length {l : List UInt8} {a e : Nat} (h : a ≤ e) (h2 : e ≤ l.length) : (sub l a e).length = e - a := by simp [sub]; omega
theorem bx_sub {l : List UInt8} {a e i : Nat} (hi : i < e - a) : bx (sub l a e) i = bx l (a + i) := by
  unfold bx sub
  rw [List.getElem?_take_of_lt hi, List.getElem?_drop]
theorem bx_at {l : List UInt8} {j : Nat} (h : j < l.length) : ((l[j]).toNat : Int) = bx l j := by simp [bx, h]
theorem Lies.sub {w : World} {b off : Nat} {l : List UInt8} (h : Lies w b off l.length (bx l)) {a e : Nat} (hae : a ≤ e) (he : e ≤ l.length) : Lies w b (off + a) (e - a) (bx (sub l a e)) :=
  ⟨fun i hi => by rw [bx_sub hi, show off + a + i = off + (a + i) by omega]; exact h.cell (a + i) (by omega), bx_lo _, bx_hi _⟩
theorem byt_sub {w : World} {b off cap : Nat} {l : List UInt8} (h : Lies w b off l.length (bx l)) (hc : l.length ≤ cap) (hm : cap ≤ maxLen) {a e : Nat} (hae : a ≤ e) (he : e ≤ l.length) :
    Byt w (.slice (some ⟨b, off + a, none⟩) (e - a) (cap - a)) (sub l a e) := by
  unfold Byt
  rw [sub_length hae he]
  exact .inr ⟨b, off + a, cap - a, rfl, by omega, by omega, h.sub hae he⟩

/-- string(v) of bytes. -/
theorem conv_list (w : World) (v : Value) (l : List UInt8) (hR : Byt w v l) : (convert 22 9 v).run Tryz.prog w = .ok (.string ⟨l.toArray⟩) w := by
  rcases hR with ⟨h0, a, cap, rfl, _⟩ | ⟨b, off, cap, rfl, hc, hm, hL⟩
  · obtain rfl : l = [] := List.length_eq_zero_iff.1 h0
    rcases a with _ | a
    · exact run_convert_bytes_nil (P := Tryz.prog) w 22 5 Tryz.underlying22 Tryz.underlying5 0 cap 9 Tryz.underlying9
    · exact run_convert_bytes_back (P := Tryz.prog) w 22 9 5 a cap [] Tryz.underlying22 Tryz.underlying5 Tryz.underlying9 (fun j hj => absurd hj (by simp))
  · have hcell : ∀ j (hj : j < l.length), w.cell? ((⟨b, off, none⟩ : Addr).add j) = some (.int .u8 ((l[j]).toNat : Int)) := by
      intro j hj
      rw [bx_at hj, add_at]
      exact hL.cell j hj
    exact run_convert_bytes_back (P := Tryz.prog) w 22 9 5 ⟨b, off, none⟩ cap l Tryz.underlying22 Tryz.underlying5 Tryz.underlying9 hcell

/-- A token. -/
structure Tok where
  kind : Nat
  text : List UInt8
  fr : Nat
  to : Nat
def tokV (t : Tok) : Value := .agg #[.int .i64 t.kind, .string ⟨t.text.toArray⟩, .int .i64 t.fr, .int .i64 t.to]
abbrev Tk := Except Nat Tok
/-- A token, or the error, as they are returned. -/
def tkV : Tk → Value
  | .ok t => .tuple #[tokV t, .nilIface]
  | .error n => .tuple #[tokV ⟨0, [], 0, 0⟩, errV n]
def stands (kind : Nat) (l : List UInt8) (a : Nat) : Pl → Tk
  | .ok e => .ok ⟨kind, sub l a e, a, e⟩
  | .error n => .error n

set_option maxHeartbeats 400000 in
theorem asItStands_any (kind : Nat) (l : List UInt8) (a e : Nat) (v : Value) (w : World) (hB : Byt w v l) (h0 : a < l.length) (hae : a ≤ e) (he : e ≤ l.length) :
    Calls Tryz.prog 43 #[.int .i64 kind, v, .int .i64 a, .int .i64 e] w fun r w' => r = .returned (tokV ⟨kind, sub l a e, a, e⟩) ∧ Below w.heap.size w w' := by
  rcases hB with ⟨h, _⟩ | ⟨b, off, cap, rfl, hc, hm', hL⟩
  · omega
  · have hconv := fun o => conv_list (w.alloc o) _ _ (Byt.below (byt_sub hL hc hm' hae he) (bl_a (Below.refl _ _) o))
    have haI : (a : Int) ≤ (e : Int) := by omega
    have heI : (e : Int) ≤ (cap : Int) := by omega
    unfold maxLen at hm'
    have hcI : (cap : Int) ≤ 9223372036854775807 := by omega
    generalize sub l a e = t at *
    clear hL
    go_enter Tryz.func43, Tryz.ntmps43
    go_wp2
    refine bodyPost_ret (v := tokV ⟨kind, t, a, e⟩) ?_ rfl ?_
    all_goals first | (exact ⟨rfl, (by with_reducible repeat (first | exact Below.refl _ _ | refine bl_a ?_ _ | refine bl_s ?_ (by omega) _))⟩) | (simp [results, Tryz.results43, go_sem, tokV])

/-- The bytes of letters. -/
theorem cx_list (s : ByteArray) (k : Nat) (h : k < s.size) : ∃ c, s.data.toList.drop k = c :: s.data.toList.drop (k + 1) ∧ (c.toNat : Int) = cx s k :=
  ⟨s[k]'h, by rw [List.drop_eq_getElem_cons (by rw [Array.length_toList]; exact h)]; rfl, cx_at s k h⟩

set_option maxRecDepth 100000 in
set_option maxHeartbeats 1600000 in
theorem spelled_any (l : List UInt8) (i : Nat) (v : Value) (s : ByteArray) (w : World) (hB : Byt w v l) (hi : i ≤ l.length) (hm : l.length ≤ 281474976710656) (hs : s.size ≤ 1000) :
    Calls Tryz.prog 66 #[v, .int .i64 i, .string s] w fun r w' => r = .returned (plV (spelledL l i s.data.toList)) ∧ Below w.heap.size w w' := by
  have hiI : (i : Int) ≤ 281474976710656 := by omega
  have hsI : (s.size : Int) ≤ 1000 := by omega
  go_enter Tryz.func66, Tryz.ntmps66
  go_wp2
  go_loopw [1, 12] (fun t u wr => ∃ k : Nat, k ≤ s.size ∧ u = .int .i64 k ∧ t = .int .i64 ((i : Int) + (k : Int)) ∧ i + k ≤ l.length ∧ Hid (spelledL l (i + k) (s.data.toList.drop k) = spelledL l i s.data.toList) ∧ wr.cell? ⟨w.heap.size, 0, none⟩ = some (.string s) ∧ w.heap.size < wr.heap.size ∧ Below w.heap.size w wr) (fun _ u _ => s.size - (intOf u).toNat)
  case atStart => exact ⟨0, Nat.zero_le _, rfl, by simp, by omega, rfl, by simp [go_sem], by simp, bl_a (Below.refl _ _) _⟩
  case round =>
    obtain ⟨k, hk, rfl, rfl, hil, HP, hcs, hlt, hbel⟩ := hrel
    by_cases hks : k < s.size
    · have hI : (k : Int) < (s.size : Int) := by omega
      obtain ⟨c, ec, ecx⟩ := cx_list s k hks
      have hB1 : Byt wr v l := hB.below hbel
      have hbl1 : Below wr.heap.size wr (wr.alloc (.cells #[.int .i64 k] 3)) := bl_a (Below.refl _ _) _
      have hca : (wr.alloc (.cells #[.int .i64 k] 3)).cell? ⟨w.heap.size, 0, none⟩ = some (.string s) := by rw [World.cell?_alloc_past _ _ _ (by omega)]; exact hcs
      have hcb : (wr.alloc (.cells #[.int .i64 k] 3)).cell? ⟨wr.heap.size, 0, none⟩ = some (.int .i64 k) := by simp [go_sem]
      have h1 := taken_letter w.heap.size wr.heap.size l (i + k) v (fun c => c == cx s k) _ (hB1.below hbl1) hil hm (fun c => letter_any c _ _ s k _ hca hcb hks)
      have e0 : ((i + k : Nat) : Int) = (i : Int) + (k : Int) := by omega
      rw [e0] at h1
      cases h : hasAt l (i + k) (fun c => c == cx s k)
      · have e : takenL l (i + k) (fun c => c == cx s k) = .error (i + k + 1) := by simp [takenL, h]
        have HR : Hid (spelledL l i s.data.toList = .error (i + k + 1)) := by show _ = _; rw [← HP.out, ec, spelledL, ecx, h]; rfl
        rw [e] at h1
        simp only [plV, errV] at h1
        clear h e HP ec ecx hB1 hB hca hcb
        go_wp2_with (go_at_call 93; refine h1.mono ?_; rintro r w2 ⟨rfl, hb2⟩)
        go_ret2
        exact ⟨r_pl (by rw [HR.out]; rfl), bl_t (bl_a hbel _) hb2⟩
      · have e : takenL l (i + k) (fun c => c == cx s k) = .ok (i + k + 1) := by simp [takenL, h]
        have HR : Hid (spelledL l (i + (k + 1)) (s.data.toList.drop (k + 1)) = spelledL l i s.data.toList) := by show _ = _; rw [← HP.out, ec, spelledL, ecx, h]; rfl
        have hl := hasAt_lt h
        rw [e] at h1
        simp only [plV] at h1
        clear h e HP ec ecx hB1 hcb
        go_wp2_with (go_at_call 93; refine h1.mono ?_; rintro r w2 ⟨rfl, hb2⟩)
        go_roundw
        case rel =>
          have z2 := hb2.size
          simp only [World.size_alloc] at z2
          exact ⟨k + 1, by omega, by go_num, by go_num, by omega, HR, by rw [hb2.cell (p := ⟨w.heap.size, 0, none⟩) (by simp; omega)]; exact hca, by omega, bl_t (bl_a hbel _) hb2⟩
        case measure => simp [intOf]; omega
    · have hI : ¬ (k : Int) < (s.size : Int) := by omega
      have ek : k = s.size := by omega
      have HR : Hid (spelledL l i s.data.toList = .ok (i + k)) := by
        show _ = _
        rw [← HP.out, List.drop_eq_nil_of_le (by rw [Array.length_toList]; exact Nat.le_of_eq ek.symm)]; rfl
      clear HP hB ek
      go_wp2
      go_ret2
      exact ⟨r_pl (by rw [HR.out]; simp [plV]), hbel⟩
end Go.Proofs.YtlahlnocjfphjaaGreatDoor.Lx

namespace Go.Proofs.YtlahlnocjfphjaaGreatDoor.Lx
open Go.RowKit
attribute [local go_sem] setCell_drewN alloc_drewN

theorem bcell {W w1 : World} (hb : Below W.heap.size W w1) : (∀ b o, b < W.heap.size → w1.cell? ⟨b, o, none⟩ = W.cell? ⟨b, o, none⟩) ∧ (∀ b o, b < W.heap.size → w1.frozen? ⟨b, o, none⟩ = W.frozen? ⟨b, o, none⟩) :=
  ⟨fun b o h => hb.cell (p := ⟨b, o, none⟩) h, fun b o h => hb.frozen (p := ⟨b, o, none⟩) h⟩

/-- The cell of a token's result behind a call. -/
theorem keepT {w w' : World} (h : Below (w.alloc (.cells #[.int .i64 0, .string ⟨#[]⟩, .int .i64 0, .int .i64 0] 50)).heap.size (w.alloc (.cells #[.int .i64 0, .string ⟨#[]⟩, .int .i64 0, .int .i64 0] 50)) w') :
    (∀ o, w'.cell? ⟨w.heap.size, o, none⟩ = #[Value.int .i64 0, .string ⟨#[]⟩, .int .i64 0, .int .i64 0][o]?) ∧ (∀ o, w'.frozen? ⟨w.heap.size, o, none⟩ = false) ∧ w.heap.size < w'.heap.size := by
  have z := h.size
  simp only [World.size_alloc] at z
  refine ⟨fun o => ?_, fun o => ?_, by omega⟩
  · rw [h.cell (p := ⟨w.heap.size, o, none⟩) (by simp only [World.size_alloc]; omega)]
    simp [go_sem]
  · rw [h.frozen (p := ⟨w.heap.size, o, none⟩) (by simp only [World.size_alloc]; omega)]
    simp [go_sem]

set_option maxRecDepth 100000 in
set_option maxHeartbeats 800000 in
theorem word_any (l : List UInt8) (i : Nat) (v : Value) (s : ByteArray) (w : World) (hB : Byt w v l) (hi : i < l.length) (hm : l.length ≤ 281474976710656) (hs : s.size ≤ 1000) :
    Calls Tryz.prog 44 #[v, .int .i64 i, .string s] w fun r w' => r = .returned (tkV (stands 3 l i (spelledL l i s.data.toList))) ∧ Below w.heap.size w w' := by
  have hB0 : Byt (w.alloc (.cells #[.int .i64 0, .string ⟨#[]⟩, .int .i64 0, .int .i64 0] 50)) v l := Row.alloc hB _
  have h1 := spelled_any l i v s _ hB0 (by omega) hm hs
  cases hd : spelledL l i s.data.toList with
  | error n =>
    rw [hd] at h1
    simp only [plV, errV] at h1
    clear hd
    go_enter Tryz.func44, Tryz.ntmps44
    go_wp2_with (go_at_call 66; refine h1.mono ?_; rintro r w2 ⟨rfl, hb2⟩; obtain ⟨kc, kf, kz⟩ := keepT hb2)
    refine bodyPost_ret (v := .tuple #[tokV ⟨0, [], 0, 0⟩, errV n]) ?_ rfl ?_
    all_goals first | (exact ⟨rfl, (by with_reducible repeat (first | exact Below.refl _ _ | refine bl_t ?_ hb2 | refine bl_a ?_ _ | refine bl_s ?_ (by omega) _))⟩) | (simp [results, Tryz.results44, go_sem, tokV, errV, kc])
  | ok e =>
    rw [hd] at h1
    simp only [plV] at h1
    obtain ⟨e1, e2⟩ := spelledL_le _ hd
    have e3 := e2 (by omega)
    have h2 := fun w' (hb : Byt w' v l) => asItStands_any 3 l i e v w' hb hi (by omega) e3
    simp only [tokV] at h2
    clear hd e1 e2
    obtain ⟨t, ht⟩ : ∃ t, sub l i e = t := ⟨_, rfl⟩
    have HT : Hid (sub l i e = t) := ht
    rw [ht] at h2
    clear ht
    go_enter Tryz.func44, Tryz.ntmps44
    go_wp2_with (first | (go_at_call 66; refine h1.mono ?_; rintro r w2 ⟨rfl, hb2⟩; have hB2 := hB0.below hb2) | (go_at_call 43; refine (h2 _ hB2).mono ?_; rintro r w3 ⟨rfl, hb3⟩; obtain ⟨kc, kf, kz⟩ := keepT (bl_t hb2 hb3)))
    refine bodyPost_ret (v := .tuple #[tokV ⟨3, t, i, e⟩, .nilIface]) ?_ rfl ?_
    all_goals first | (exact ⟨by rw [← HT.out]; rfl, (by with_reducible repeat (first | exact Below.refl _ _ | refine bl_t ?_ hb3 | refine bl_t ?_ hb2 | refine bl_a ?_ _ | refine bl_s ?_ (by omega) _))⟩) | (simp [results, Tryz.results44, go_sem, tokV, kc])
end Go.Proofs.YtlahlnocjfphjaaGreatDoor.Lx

namespace Go.Proofs.YtlahlnocjfphjaaGreatDoor.Lx
open Go.RowKit

/-- Is it a code point? -/
def ptB (p : Int) : Bool := decide (0 ≤ p ∧ p ≤ 1114111 ∧ ¬ (55296 ≤ p ∧ p ≤ 57343))

set_option maxHeartbeats 400000 in
theorem isPoint_any (p : Int) (w : World) (hT : Tab w) :
    Calls Tryz.prog 127 #[.int .i64 p] w fun e w' => e = .returned (.bool (ptB p)) ∧ w = w' := by
  have t3 := hT.t3
  have hs : ∀ w, Calls Tryz.prog 134 #[.int .i64 p] w fun e w' => e = .returned (.bool (surB p)) ∧ w = w' := fun w => (sur_any p w).mono fun e w' h => ⟨h.1, h.2.symm⟩
  by_cases h1 : 0 ≤ p
  · by_cases h2 : p ≤ 1114111
    · have e : (!surB p) = ptB p := by
        rw [Bool.eq_iff_iff, not_sur, ptB, decide_eq_true_iff]; omega
      go_enter Tryz.func127, Tryz.ntmps127
      go_wp2_with (go_at_call 134; refine (hs _).mono ?_; rintro e w' ⟨rfl, rfl⟩)
      go_ret
      exact ⟨ret_bool (by first | exact e | rfl), rfl⟩
    · have e : false = ptB p := (decide_eq_false (by omega)).symm
      have HE : Hid (false = ptB p) := e
      clear e
      go_enter Tryz.func127, Tryz.ntmps127
      go_wp2_with (go_at_call 134; refine (hs _).mono ?_; rintro e w' ⟨rfl, rfl⟩)
      go_ret
      exact ⟨ret_bool HE.out, rfl⟩
  · have e : false = ptB p := (decide_eq_false (by omega)).symm
    have HE : Hid (false = ptB p) := e
    clear e
    go_enter Tryz.func127, Tryz.ntmps127
    go_wp2_with (go_at_call 134; refine (hs _).mono ?_; rintro e w' ⟨rfl, rfl⟩)
    go_ret
    exact ⟨ret_bool HE.out, rfl⟩

set_option maxHeartbeats 400000 in
theorem scalar_any (p : Int) (w : World) :
    Calls Tryz.prog 87 #[.int .i64 p] w fun e w' => e = .returned (.bool (ptB p)) ∧ w = w' := by
  by_cases h1 : 0 ≤ p
  · by_cases h2 : p ≤ 1114111
    · by_cases h3 : p < 55296
      · have HE : Hid (true = ptB p) := (decide_eq_true (by omega)).symm
        go_enter Tryz.func87, Tryz.ntmps87
        go_wp2
        go_ret
        exact ⟨ret_bool HE.out, rfl⟩
      · by_cases h4 : 57343 < p
        · have HE : Hid (true = ptB p) := (decide_eq_true (by omega)).symm
          go_enter Tryz.func87, Tryz.ntmps87
          go_wp2
          go_ret
          exact ⟨ret_bool HE.out, rfl⟩
        · have HE : Hid (false = ptB p) := (decide_eq_false (by omega)).symm
          go_enter Tryz.func87, Tryz.ntmps87
          go_wp2
          go_ret
          exact ⟨ret_bool HE.out, rfl⟩
    · have HE : Hid (false = ptB p) := (decide_eq_false (by omega)).symm
      go_enter Tryz.func87, Tryz.ntmps87
      go_wp2
      go_ret
      exact ⟨ret_bool HE.out, rfl⟩
  · have HE : Hid (false = ptB p) := (decide_eq_false (by omega)).symm
    go_enter Tryz.func87, Tryz.ntmps87
    go_wp2
    go_ret
    exact ⟨ret_bool HE.out, rfl⟩

set_option maxHeartbeats 400000 in
theorem length_any (p : Int) (w : World) (hT : Tab w) :
    Calls Tryz.prog 128 #[.int .i64 p] w fun e w' => e = .returned (.int .i64 (encN p : Nat)) ∧ w = w' := by
  obtain ⟨t0, t1, t2, t3⟩ := hT
  by_cases h1 : p < 128
  · have HE : Hid (((encN p : Nat) : Int) = 1) := by show _ = _; simp [encN, h1]
    have k : ¬ 127 < p := by omega
    go_enter Tryz.func128, Tryz.ntmps128
    go_wp2
    refine wp_loop_rounds 1 ?_
    rw [rounds_succ]
    go_wp2
    go_ret
    exact ⟨ret_int HE.out.symm, rfl⟩
  · have k1 : 127 < p := by omega
    by_cases h2 : p < 2048
    · have HE : Hid (((encN p : Nat) : Int) = 2) := by show _ = _; simp [encN, h1, h2]
      have k : ¬ 2047 < p := by omega
      go_enter Tryz.func128, Tryz.ntmps128
      go_wp2
      refine wp_loop_rounds 2 ?_
      rw [rounds_succ]
      go_wp2
      rw [rounds_succ]
      go_wp2
      go_ret
      exact ⟨ret_int HE.out.symm, rfl⟩
    · have k2 : 2047 < p := by omega
      by_cases h3 : p < 65536
      · have HE : Hid (((encN p : Nat) : Int) = 3) := by show _ = _; simp [encN, h1, h2, h3]
        have k : ¬ 65535 < p := by omega
        go_enter Tryz.func128, Tryz.ntmps128
        go_wp2
        refine wp_loop_rounds 3 ?_
        rw [rounds_succ]
        go_wp2
        rw [rounds_succ]
        go_wp2
        rw [rounds_succ]
        go_wp2
        go_ret
        exact ⟨ret_int HE.out.symm, rfl⟩
      · have HE : Hid (((encN p : Nat) : Int) = 4) := by show _ = _; simp [encN, h1, h2, h3]
        have k : 65535 < p := by omega
        go_enter Tryz.func128, Tryz.ntmps128
        go_wp2
        refine wp_loop_rounds 4 ?_
        rw [rounds_succ]
        go_wp2
        rw [rounds_succ]
        go_wp2
        rw [rounds_succ]
        go_wp2
        rw [rounds_succ]
        go_wp2
        go_ret
        exact ⟨ret_int HE.out.symm, rfl⟩
end Go.Proofs.YtlahlnocjfphjaaGreatDoor.Lx
