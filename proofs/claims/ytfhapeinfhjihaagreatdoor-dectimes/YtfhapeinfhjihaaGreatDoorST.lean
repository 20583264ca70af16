/-
  What DecTimes leans on: texts of products without the noughts behind them. No condition of its own.
  DecTimes answers true for every number and limbs, and leaves memory that was there as it was. Conditions: the package's sentinel, and the library's variables, as the program lays them.
  DecTimes answers true for every number and limbs, and leaves memory that was there as it was. Conditions: the package's sentinel, and the library's variables, as the program lays them.
  DecTimes answers true for every number and limbs, and leaves memory that was there as it was. Conditions: the package's sentinel, and the library's variables, as the program lays them.
-/
import Derived.Test.YtfhapeinfhjihaaGreatDoorS25
import Derived.Test.YtfhapeinfhjihaaGreatDoorSW
import Derived.Deep.LoopGhost
namespace Go.Proofs.YtfhapeinfhjihaaGreatDoor
open Go.RowKit Go.Sort

/-- A number that lies in a block of its own. -/
def Db (w : World) (A : Nat) (s : ByteArray) (e : Int) : Prop := w.heap[A]? = some (.cells #[.bool false, .string s, .int .i64 e] 23 (0, 0))
theorem Db.new (w : World) (s : ByteArray) (e : Int) : Db (w.alloc (.cells #[.bool false, .string s, .int .i64 e] 23)) w.heap.size s e := heap_alloc_new w _
theorem Db.lt {w : World} {A : Nat} {s : ByteArray} {e : Int} (h : Db w A s e) : A < w.heap.size := (Array.getElem?_eq_some_iff.1 h).1
theorem Db.facts {w : World} {A : Nat} {s : ByteArray} {e : Int} (h : Db w A s e) : (∀ o, w.cell? ⟨A, o, none⟩ = #[Value.bool false, .string s, .int .i64 e][o]?) ∧ (∀ o, w.frozen? ⟨A, o, none⟩ = false) ∧ A < w.heap.size := by
  refine ⟨fun o => ?_, fun o => ?_, h.lt⟩
  · unfold Db at h; simp [World.cell?, h]
  · unfold Db at h; simp [World.frozen?, h]
theorem Db.set1 {w : World} {A : Nat} {s t : ByteArray} {e : Int} (h : Db w A s e) : Db (w.setCell ⟨A, 1, none⟩ (.string t)) A t e := by
  have hlt := h.lt
  unfold Db at h ⊢
  have h' : w.heap[A] = .cells #[.bool false, .string s, .int .i64 e] 23 (0, 0) := by simpa [Array.getElem?_eq_getElem hlt] using h
  show (w.heap.modify A _)[A]? = _
  rw [Array.getElem?_eq_getElem (by simpa using hlt), Array.getElem_modify_self, h']
  rfl
theorem Db.set2 {w : World} {A : Nat} {s : ByteArray} {e f : Int} (h : Db w A s e) : Db (w.setCell ⟨A, 2, none⟩ (.int .i64 f)) A s f := by
  have hlt := h.lt
  unfold Db at h ⊢
  have h' : w.heap[A] = .cells #[.bool false, .string s, .int .i64 e] 23 (0, 0) := by simpa [Array.getElem?_eq_getElem hlt] using h
  show (w.heap.modify A _)[A]? = _
  rw [Array.getElem?_eq_getElem (by simpa using hlt), Array.getElem_modify_self, h']
  rfl
theorem digits_head (n : Nat) (h : 0 < n) : (Lib.decDigits n).head? ≠ some 48 := by
  induction n using Nat.strongRecOn with
  | _ n ih =>
    rw [Lib.decDigits]
    by_cases h10 : n < 10
    · rw [dif_pos h10]
      intro e
      have e2 := congrArg UInt8.toNat (Option.some.inj (by simpa using e : some (UInt8.ofNat (48 + n)) = some 48))
      have : (UInt8.ofNat (48 + n)).toNat = 48 + n := by simp; omega
      rw [this] at e2
      have : (48 : UInt8).toNat = 48 := rfl
      omega
    · rw [dif_neg h10]
      have hne := (decDigits_all (n / 10)).2.2
      have := ih (n / 10) (by omega) (by omega)
      cases hd : Lib.decDigits (n / 10) with
      | nil => exact absurd hd hne
      | cons c t => rw [hd] at this; simpa using this
theorem txd_head (f : Nat → Int) (n : Nat) : ∀ d, (txd f n (d + 1)).head? = (Lib.decDigits (f (n - 1)).toNat).head? := by
  intro d
  induction d with
  | zero => simp [txd]
  | succ d ih =>
    rw [txd]
    have hp := txd_pos f n (d + 1) (by omega)
    cases hc : txd f n (d + 1) with
    | nil => rw [hc] at hp; simp at hp
    | cons c t => rw [hc] at ih; simpa using ih
theorem textN_head {f : Nat → Int} {n : Nat} (h : Can n f) (h0 : 0 < n) : (textN f n).head? ≠ some 48 := by
  unfold textN
  rw [if_neg (by omega)]
  obtain ⟨d, rfl⟩ : ∃ d, n = d + 1 := ⟨n - 1, by omega⟩
  rw [txd_head]
  refine digits_head _ ?_
  have h1 := h.1 d (by omega)
  have h2 := h.2 (by omega)
  rw [show d + 1 - 1 = d by omega] at h2 ⊢
  omega
theorem bsl (l : List UInt8) : (bs l).data.toList = l := by simp [bs]
theorem bsz (l : List UInt8) : (bs l).size = l.length := by simp [bs, ByteArray.size]
theorem good_of {l : List UInt8} {x : Int} (h0 : l ≠ []) (h1 : l.length ≤ 400) (h2 : l.all isD = true) (h3 : l.head? ≠ some 48) (h4 : l.getLast? ≠ some 48) (x0 : -1000000 ≤ x) (x1 : x ≤ 1000000) : goodB false (bs l) x = true :=
  decide_eq_true (.inr ⟨by rw [bsl]; exact ⟨h0, (by show l.length ≤ 65536; omega), h2, h3, h4⟩, x0, x1⟩)
theorem sgn_pos {s : ByteArray} (h : s.size ≠ 0) : sgnD false s = 1 := by unfold sgnD; rw [if_neg h]; rfl
theorem ten200 : (10 : Int) ^ 200 ≤ pw 23 := by unfold pw; decide +kernel
theorem dec_lt23 (s : ByteArray) (hs : s.size ≤ 200) (hd : Digits s) : dec (dig s) s.size < pw 23 := by
  have h1 := (dec_bd (dig s) s.size (fun i hi => by have := hd i hi; unfold dig; omega)).2
  have h2 := pow_mono10 hs
  have := ten200
  omega
/-- A product's digits without the noughts behind them are a multiple. -/
theorem times_yes {l : List UInt8} {z : Nat} {s : ByteArray} {e K : Int} (gA : goodB false (bs l) (e + z) = true) (gB : goodB false s e = true) (hs : s.size ≠ 0) (hl : l ≠ []) (hv : num (l ++ List.replicate z 48) = dec (dig s) s.size * K) : mulR false false (bs l) s (e + z) e = (true, 0) := by
  unfold mulR
  rw [gA, gB, if_neg (by simp), sgn_pos hs, if_neg (by decide), if_neg (by rw [bsz]; intro h; exact hl (List.eq_nil_of_length_eq_zero h)), if_neg (by omega), dec_all (bs l), bsl]
  rw [show (e + (z : Int) - e).toNat = z by omega]
  rw [num_append, rep_num, List.length_replicate] at hv
  have : multB (num l) (dec (dig s) s.size) z = true := by
    unfold multB
    rw [show num l * 10 ^ z = dec (dig s) s.size * K by omega]
    exact decide_eq_true (Int.mul_emod_right _ _)
  rw [this]
theorem times_nought {s : ByteArray} {e : Int} (gB : goodB false s e = true) (hs : s.size ≠ 0) : mulR false false (bs []) s 0 e = (true, 0) := by
  unfold mulR
  have gA : goodB false (bs []) 0 = true := by decide +kernel
  rw [gA, gB, if_neg (by simp), sgn_pos hs, if_neg (by decide), if_pos (show (bs []).size = 0 from rfl)]
theorem times_no {l : List UInt8} {s : ByteArray} {e : Int} (gA : goodB false (bs l) (e - 1) = true) (gB : goodB false s e = true) (hs : s.size ≠ 0) (hl : l ≠ []) : mulR false false (bs l) s (e - 1) e = (false, 0) := by
  unfold mulR
  rw [gA, gB, if_neg (by simp), sgn_pos hs, if_neg (by decide), if_neg (by rw [bsz]; intro h; exact hl (List.eq_nil_of_length_eq_zero h)), if_pos (by omega)]
theorem snoc_of {l : List UInt8} (h : l ≠ []) : ∃ l' c, l = l' ++ [c] := ⟨l.dropLast, l.getLast h, (List.dropLast_concat_getLast h).symm⟩
theorem cx_snoc (l : List UInt8) (c : UInt8) : cx (bs (l ++ [c])) ((bs (l ++ [c])).size - 1) = (c.toNat : Int) := by
  have hz : (bs (l ++ [c])).size = l.length + 1 := by rw [bsz]; simp
  obtain ⟨b, hb, hc⟩ := cx_get (bs (l ++ [c])) ((bs (l ++ [c])).size - 1) (by omega)
  rw [← hc]
  rw [bsl, hz, show l.length + 1 - 1 = l.length by omega] at hb
  have : b = c := by simpa using hb.symm
  rw [this]
theorem cut_snoc (l : List UInt8) (c : UInt8) : (bs (l ++ [c])).extract 0 ((bs (l ++ [c])).size - 1) = bs l := by
  rw [extract_to, bsl, bsz]
  simp
end Go.Proofs.YtfhapeinfhjihaaGreatDoor

namespace Go.Proofs.YtfhapeinfhjihaaGreatDoor
open Go.RowKit Go.Sort
attribute [local go_sem] setCell_drewN alloc_drewN

theorem keep1m {w w' : World} {c : Array Value} {t : TypeId} (h : Below (w.alloc (.cells c t)).heap.size (w.alloc (.cells c t)) w') : (∀ o, w'.cell? ⟨w.heap.size, o, none⟩ = c[o]?) ∧ w.heap.size < w'.heap.size := by
  refine ⟨fun o => ?_, ?_⟩
  · rw [h.cell (p := ⟨w.heap.size, o, none⟩) (by simp)]
    rw [World.cell?_alloc_at _ _ _ _ rfl]
  · have := h.size
    simp at this
    omega

set_option maxRecDepth 100000 in
set_option maxHeartbeats 3200000 in
theorem times_out (n : Bool) (s : ByteArray) (e : Int) (v : Value) (k : Nat) (f : Nat → Int) (a : Addr) (w : World) (hE : Env w a) (hs : s.size ≤ maxLen) (hR : Row w v k f)
    (h : ¬ (goodB n s e = true ∧ n = false ∧ s.size ≠ 0 ∧ s.size ≤ 200 ∧ -100000 ≤ e ∧ e ≤ 100000 ∧ Can k f ∧ k ≤ 20)) :
    Calls Tryz.prog 5 #[.agg #[.bool n, .string s, .int .i64 e], v] w fun r w' => r = .returned (.bool true) ∧ Below w.heap.size w w' := by
  have h7 := fun w hE => heads3_any a w hE
  have h1 := fun w => check_any n s e w hs
  have hok := fun hC w' (hb : Below w.heap.size w w') => check_ok v k f w' (hR.below hb) hC
  have hbad := fun hC w' (hb : Below w.heap.size w w') => check_bad v k f w' (hR.below hb) hC
  unfold maxLen at hs
  obtain ⟨va, vc, rfl, hkm⟩ := hR.shape
  have hkI : (k : Int) ≤ 9223372036854775807 := by unfold maxLen at hkm; omega
  clear hR
  cases hg : goodB n s e
  · rw [hg] at h1
    simp only [errB, Bool.false_eq_true, if_false] at h1
    clear h hg hok hbad
    go_enter Tryz.func5, Tryz.ntmps5
    go_wp2_with (first | (go_at_call 12; refine (h1 _).mono ?_; rintro r w1 ⟨rfl, hb1⟩; obtain ⟨kc, kz⟩ := keep1m hb1) | (go_at_call 16; refine (h7 _ ((hE.alloc _).below hb1)).mono ?_; rintro r w9 ⟨rfl, hb9⟩))
    go_ret
    exact ⟨rfl, bl_t (bl_t (bl_a (Below.refl _ _) _) hb1) hb9⟩
  · rw [hg] at h1
    simp only [errB, if_true] at h1
    cases n
    · by_cases h0 : s.size = 0
      · have hn : s.toList = [] := by rw [ByteArray.toList_eq]; exact (nil_size s).2 h0
        clear h hg h0 hok hbad
        go_enter Tryz.func5, Tryz.ntmps5
        go_wp2_with (first | (go_at_call 12; refine (h1 _).mono ?_; rintro r w1 ⟨rfl, hb1⟩; obtain ⟨kc, kz⟩ := keep1m hb1) | (go_at_call 16; refine (h7 _ ((hE.alloc _).below hb1)).mono ?_; rintro r w9 ⟨rfl, hb9⟩))
        go_ret
        exact ⟨rfl, bl_t (bl_t (bl_a (Below.refl _ _) _) hb1) hb9⟩
      · have hn := toList_ne (s := s) (by omega)
        by_cases h3 : s.size ≤ 200
        · have h3I : ¬ (200 : Int) < (s.size : Int) := by omega
          by_cases h4 : -100000 ≤ e
          · have h4I : ¬ e < -100000 := by omega
            by_cases h5 : e ≤ 100000
            · have h5I : ¬ 100000 < e := by omega
              by_cases hC : Can k f
              · have h6 : ¬ k ≤ 20 := fun h6 => h ⟨hg, rfl, h0, h3, h4, h5, hC, h6⟩
                have h6I : (20 : Int) < (k : Int) := by omega
                have h2 := hok hC
                clear h hg h0 hok hbad h3 h4 h5 hC h6
                go_enter Tryz.func5, Tryz.ntmps5
                go_wp2_with (first | (go_at_call 12; refine (h1 _).mono ?_; rintro r w1 ⟨rfl, hb1⟩; obtain ⟨kc, kz⟩ := keep1m hb1) | (go_at_call 19; refine (h2 _ (bl_t (bl_a (Below.refl _ _) _) hb1)).mono ?_; rintro r w2 ⟨rfl, rfl⟩) | (go_at_call 16; refine (h7 _ ((hE.alloc _).below hb1)).mono ?_; rintro r w9 ⟨rfl, hb9⟩))
                go_ret
                exact ⟨rfl, bl_t (bl_t (bl_a (Below.refl _ _) _) hb1) hb9⟩
              · have h2 := hbad hC
                clear h hg h0 hok hbad h3 h4 h5 hC
                go_enter Tryz.func5, Tryz.ntmps5
                go_wp2_with (first | (go_at_call 12; refine (h1 _).mono ?_; rintro r w1 ⟨rfl, hb1⟩; obtain ⟨kc, kz⟩ := keep1m hb1) | (go_at_call 19; refine (h2 _ (bl_t (bl_a (Below.refl _ _) _) hb1)).mono ?_; rintro r w2 ⟨rfl, rfl⟩) | (go_at_call 16; refine (h7 _ ((hE.alloc _).below hb1)).mono ?_; rintro r w9 ⟨rfl, hb9⟩))
                go_ret
                exact ⟨rfl, bl_t (bl_t (bl_a (Below.refl _ _) _) hb1) hb9⟩
            · have h5I : 100000 < e := by omega
              clear h hg h0 hok hbad h3 h4 h5
              go_enter Tryz.func5, Tryz.ntmps5
              go_wp2_with (first | (go_at_call 12; refine (h1 _).mono ?_; rintro r w1 ⟨rfl, hb1⟩; obtain ⟨kc, kz⟩ := keep1m hb1) | (go_at_call 16; refine (h7 _ ((hE.alloc _).below hb1)).mono ?_; rintro r w9 ⟨rfl, hb9⟩))
              go_ret
              exact ⟨rfl, bl_t (bl_t (bl_a (Below.refl _ _) _) hb1) hb9⟩
          · have h4I : e < -100000 := by omega
            clear h hg h0 hok hbad h3 h4
            go_enter Tryz.func5, Tryz.ntmps5
            go_wp2_with (first | (go_at_call 12; refine (h1 _).mono ?_; rintro r w1 ⟨rfl, hb1⟩; obtain ⟨kc, kz⟩ := keep1m hb1) | (go_at_call 16; refine (h7 _ ((hE.alloc _).below hb1)).mono ?_; rintro r w9 ⟨rfl, hb9⟩))
            go_ret
            exact ⟨rfl, bl_t (bl_t (bl_a (Below.refl _ _) _) hb1) hb9⟩
        · have h3I : (200 : Int) < (s.size : Int) := by omega
          clear h hg h0 hok hbad h3
          go_enter Tryz.func5, Tryz.ntmps5
          go_wp2_with (first | (go_at_call 12; refine (h1 _).mono ?_; rintro r w1 ⟨rfl, hb1⟩; obtain ⟨kc, kz⟩ := keep1m hb1) | (go_at_call 16; refine (h7 _ ((hE.alloc _).below hb1)).mono ?_; rintro r w9 ⟨rfl, hb9⟩))
          go_ret
          exact ⟨rfl, bl_t (bl_t (bl_a (Below.refl _ _) _) hb1) hb9⟩
    · clear h hg hok hbad
      go_enter Tryz.func5, Tryz.ntmps5
      go_wp2_with (first | (go_at_call 12; refine (h1 _).mono ?_; rintro r w1 ⟨rfl, hb1⟩; obtain ⟨kc, kz⟩ := keep1m hb1) | (go_at_call 16; refine (h7 _ ((hE.alloc _).below hb1)).mono ?_; rintro r w9 ⟨rfl, hb9⟩))
      go_ret
      exact ⟨rfl, bl_t (bl_t (bl_a (Below.refl _ _) _) hb1) hb9⟩
end Go.Proofs.YtfhapeinfhjihaaGreatDoor

namespace Go.Proofs.YtfhapeinfhjihaaGreatDoor
open Go.RowKit Go.Sort
attribute [local go_sem] setCell_drewN alloc_drewN

set_option maxRecDepth 100000 in
set_option maxHeartbeats 6400000 in
theorem times_main (s : ByteArray) (e : Int) (v : Value) (k : Nat) (f : Nat → Int) (a : Addr) (w : World) (hE : Env w a) (hR : Row w v k f)
    (gB : goodB false s e = true) (h0 : s.size ≠ 0) (h2 : s.size ≤ 200) (e0 : -100000 ≤ e) (e1 : e ≤ 100000) (hC : Can k f) (hk : k ≤ 20) :
    Calls Tryz.prog 5 #[.agg #[.bool false, .string s, .int .i64 e], v] w fun r w' => r = .returned (.bool true) ∧ Below w.heap.size w w' := by
  have h7 := fun w hE => heads3_any a w hE
  have hsm : s.size ≤ maxLen := by unfold maxLen; omega
  have c1 := fun w => check_any false s e w hsm
  rw [gB] at c1
  simp only [errB, if_true] at c1
  obtain ⟨_, sd, sl⟩ := good_parts gB h0
  have hX := dec_lt23 s h2 sd
  have hX0 := dec_pos s (by omega) sd sl
  have c2 := fun w' (hb : Below w.heap.size w w') => check_ok v k f w' (hR.below hb) hC
  have c3 := fun w => of_ok s w (by omega) (by omega) sd
  have hKv := val_lt hC.1
  have hK0 := val_nonneg hC.1
  have p20 : pw k ≤ pw 20 := pw_mono hk
  have c4 := fun vx w' (hb : Below w.heap.size w w') (hx : Num w' vx (dec (dig s) s.size)) => mul_num vx v (dec (dig s) s.size) (val f k) w' hx (⟨k, f, hR.below hb, hC, rfl⟩) (lt_pw hX (by omega)) (lt_pw (show val f k < pw 20 by omega) (by omega))
  have HPl : Hid (dec (dig s) s.size * val f k < pw (23 + 20)) := mul_pw (by omega) hX (by omega)
  have HK : Hid (0 ≤ val f k) := hK0
  obtain ⟨va, vc, rfl, _⟩ := hR.shape
  have hn := toList_ne (s := s) (by omega)
  have i1 : ¬ (200 : Int) < (s.size : Int) := by omega
  have i2 : ¬ e < -100000 := by omega
  have i3 : ¬ 100000 < e := by omega
  have i4 : ¬ (20 : Int) < (k : Int) := by omega
  have HE : Hid (Env w a) := hE
  have HgB : Hid (goodB false s e = true) := gB
  have Hs0 : Hid (s.size ≠ 0) := h0
  clear hR hC hX hKv hK0 p20 sd sl gB hE h0
  obtain ⟨K, hKe⟩ : ∃ K, val f k = K := ⟨_, rfl⟩
  rw [hKe] at c4 HPl HK
  obtain ⟨X, HXe⟩ : ∃ X, Hid (dec (dig s) s.size = X) := ⟨_, rfl⟩
  rw [HXe.out] at c3 c4 HPl hX0
  clear hKe
  go_enter Tryz.func5, Tryz.ntmps5
  go_wp2_with (first | (go_at_call 12; refine (c1 _).mono ?_; rintro r w1 ⟨rfl, hb1⟩; obtain ⟨kc, kz⟩ := keep1m hb1) | (go_at_call 19; refine (c2 _ (bl_t (bl_a (Below.refl _ _) _) hb1)).mono ?_; rintro r wn ⟨rfl, rfl⟩))
  refine (c3 _).mono ?_
  rintro r w2 ⟨rx, rfl, hNx, hb2⟩
  have hB2 : Below w.heap.size w w2 := bl_t (bl_t (bl_a (Below.refl _ _) _) hb1) hb2
  have kc2 : ∀ o, w2.cell? ⟨w.heap.size, o, none⟩ = #[Value.bool false, .string s, .int .i64 e][o]? := fun o => by rw [hb2.cell (p := ⟨w.heap.size, o, none⟩) kz]; exact kc o
  have kz2 : w.heap.size < w2.heap.size := Nat.lt_of_lt_of_le kz hb2.size
  clear kc kz hb1 hb2 c1 c2 c3
  go_wp2_with fail
  refine (c4 _ _ hB2 hNx).mono ?_
  rintro r w3 ⟨rp, rfl, ⟨pn, pf, hRp, hCp, hVp⟩, hb3⟩
  have hB3 : Below w.heap.size w w3 := bl_t hB2 hb3
  have kc3 : ∀ o, w3.cell? ⟨w.heap.size, o, none⟩ = #[Value.bool false, .string s, .int .i64 e][o]? := fun o => by rw [hb3.cell (p := ⟨w.heap.size, o, none⟩) kz2]; exact kc2 o
  have kz3 : w.heap.size < w3.heap.size := Nat.lt_of_lt_of_le kz2 hb3.size
  clear kc2 kz2 hB2 hNx hb3 c4
  have hpn : pn ≤ 43 := can_le hCp (k := 43) (by rw [hVp]; exact HPl.out)
  have c5t := ntext_ok rp pn pf w3 hRp hCp (by omega) (HE.out.below hB3).tab
  have Tl := textN_len hCp.1
  have Ta := textN_all pf pn
  have Tn := textN_num hCp.1
  have Th : 0 < pn → (textN pf pn).head? ≠ some 48 := fun h => textN_head hCp h
  have Tz : pn = 0 → textN pf pn = [48] := fun h => if_pos h
  have Tp := textN_pos pf pn
  have Pz : 0 < pn → 0 < X * K := fun h => by
    have q1 := can_ge hCp h
    have q2 := pw_pos (pn - 1)
    omega
  have Pn : pn = 0 → X * K = 0 := fun h => by rw [← hVp, h]; rfl
  rw [hVp] at Tn
  obtain ⟨ra, rc, rfl, _⟩ := hRp.shape
  clear hRp hCp hVp
  obtain ⟨T, hT⟩ : ∃ T, textN pf pn = T := ⟨_, rfl⟩
  rw [hT] at c5t Tl Ta Tn Th Tz Tp
  clear hT
  have hTl : T.length ≤ 388 := by omega
  have HT : Hid (T.all isD = true ∧ num T = X * K ∧ (0 < pn → T.head? ≠ some 48) ∧ (pn = 0 → T = [48]) ∧ 1 ≤ T.length ∧ (0 < pn → 0 < X * K) ∧ (pn = 0 → X * K = 0)) := ⟨Ta, Tn, Th, Tz, Tp, Pz, Pn⟩
  clear Ta Tn Th Tz Tp Pz Pn Tl
  go_wp2_with fail
  refine c5t.mono ?_
  rintro r w4 ⟨rfl, hb4⟩
  have HW4 : Hid (Below w.heap.size w w4) := bl_t hB3 hb4
  have HK4 : Hid (∀ o, w4.cell? ⟨w.heap.size, o, none⟩ = #[Value.bool false, .string s, .int .i64 e][o]?) := fun o => by rw [hb4.cell (p := ⟨w.heap.size, o, none⟩) kz3]; exact kc3 o
  have hz4 : w.heap.size < w4.heap.size := Nat.lt_of_lt_of_le kz3 hb4.size
  have HE4 : Hid (Env w4 a) := HE.out.below HW4.out
  have kb := HK4.out
  clear kc3 kz3 hB3 hb4 c5t HE
  go_wp2_with fail
  clear kb
  go_loopg [] T.length (fun g wx => ∃ (l : List UInt8) (z : Nat), g = l.length ∧ l.length ≤ 388 ∧ z ≤ 388 ∧ Hid (T = l ++ List.replicate z 48) ∧ Hid (Db wx w4.heap.size (bs l) (e + (z : Int))) ∧ Hid (Below w4.heap.size w4 wx))
  case atStart => exact ⟨T, 0, rfl, hTl, by omega, by show T = T ++ []; simp, (show Db _ _ _ _ by have := Db.new w4 (bs T) e; simpa using this), bl_a (Below.refl _ _) _⟩
  case round =>
    obtain ⟨l, z, rfl, hl, hz, HTl, HD, HBr⟩ := hrel
    obtain ⟨kc, kf, kz⟩ := HD.out.facts
    have kb : ∀ o, wr.cell? ⟨w.heap.size, o, none⟩ = #[Value.bool false, .string s, .int .i64 e][o]? := fun o => by rw [HBr.out.cell (p := ⟨w.heap.size, o, none⟩) hz4]; exact HK4.out o
    by_cases hnil : l = []
    · subst hnil
      have hP : X * K = 0 := by
        have := HT.out.2.1
        rw [HTl.out, List.nil_append, rep_num] at this
        omega
      have hpn0 : pn = 0 := by
        rcases Nat.eq_zero_or_pos pn with h | h
        · exact h
        · have := HT.out.2.2.2.2.2.1 h; omega
      have eT := HT.out.2.2.2.1 hpn0
      have c5 := fun w => mult_dec false false (bs []) s 0 e (by decide) (by omega) w
      rw [times_nought HgB.out Hs0.out] at c5
      have g1 : goodB false (bs [49]) (e - 1) = true := good_of (by simp) (by simp) (by decide) (by decide) (by decide) (by omega) (by omega)
      have c6 := fun w => mult_dec false false (bs [49]) s (e - 1) e (by decide) (by omega) w
      rw [times_no g1 HgB.out Hs0.out (by simp)] at c6
      have b1 : bs [49] = ⟨#[49]⟩ := rfl
      have b2 : bs [] = ⟨#[]⟩ := rfl
      have b3 : bs [48] = ⟨#[48]⟩ := rfl
      rw [b1] at c6
      rw [b2] at c5 kc
      clear HD HT HTl hP hpn0 g1 b1 b2 hl hn
      subst eT
      rw [b3]
      clear b3
      go_wp2_with fail
      refine (c5 _).mono ?_
      rintro r w5 ⟨rfl, hb5⟩
      have hbw5 : Below w4.heap.size w4 w5 := (by with_reducible repeat (first | exact Below.refl _ _ | exact HBr.out | refine bl_t ?_ hb9 | refine bl_t ?_ hb6 | refine bl_t ?_ hb5 | refine bl_d ?_ | refine bl_n ?_ _ | refine bl_a ?_ _ | refine bl_s ?_ (by first | exact Nat.le_refl _ | omega) _))
      have kb5 : ∀ o, w5.cell? ⟨w.heap.size, o, none⟩ = #[Value.bool false, .string s, .int .i64 e][o]? := fun o => by rw [hbw5.cell (p := ⟨w.heap.size, o, none⟩) hz4]; exact HK4.out o
      have hz5 : w.heap.size < w5.heap.size := Nat.lt_of_lt_of_le hz4 hbw5.size
      clear hb5 kc kf kz kb
      go_wp2_with fail
      refine (c6 _).mono ?_
      rintro r w6 ⟨rfl, hb6⟩
      have hbw6 : Below w4.heap.size w4 w6 := bl_t (bl_a hbw5 _) hb6
      go_wp2_with fail
      refine (h7 _ (HE4.out.below hbw6)).mono ?_
      rintro r w9 ⟨rfl, hb9⟩
      go_wp2
      go_ret
      exact ⟨rfl, bl_t (bl_t HW4.out hbw6) hb9⟩
    · obtain ⟨l', c, rfl⟩ := snoc_of hnil
      have hx := cx_snoc l' c
      have hcut := cut_snoc l' c
      have hcut2 : (bs (l' ++ [c])).extract 0 l'.length = bs l' := by rw [extract_to, bsl]; simp
      have hsz : (bs (l' ++ [c])).size = l'.length + 1 := by rw [bsz]; simp
      have hp1 : (bs (l' ++ [c])).size - 1 < (bs (l' ++ [c])).size := by omega
      have hx1 := cx_at (bs (l' ++ [c])) ((bs (l' ++ [c])).size - 1) hp1
      have hp2 : l'.length < (bs (l' ++ [c])).size := by omega
      have hx2 := cx_at (bs (l' ++ [c])) l'.length hp2
      have hxe : (bs (l' ++ [c])).size - 1 = l'.length := by omega
      rw [hx] at hx1
      rw [hxe] at hx
      rw [hx] at hx2
      clear hxe
      have ez : (((bs (l' ++ [c])).size : Int) - 1).toNat = (bs (l' ++ [c])).size - 1 := by omega
      have j0 : (0 : Int) < ((bs (l' ++ [c])).size : Int) := by omega
      have j1 : ((bs (l' ++ [c])).size : Int) ≤ 388 := by simp at hl; omega
      by_cases hc : c = 48
      · have HD2 : Hid (Db ((wr.setCell ⟨w4.heap.size, 1, none⟩ (.string (bs l'))).setCell ⟨w4.heap.size, 2, none⟩ (.int .i64 (e + (z : Int) + 1))) w4.heap.size (bs l') (e + ((z + 1 : Nat) : Int))) := by
          have := (HD.out.set1 (t := bs l')).set2 (f := e + (z : Int) + 1)
          rw [show e + ((z + 1 : Nat) : Int) = e + (z : Int) + 1 by omega]
          exact this
        have HT2 : Hid (T = l' ++ List.replicate (z + 1) 48) := by
          have := HTl.out
          show T = _
          rw [this, hc, List.append_assoc, List.replicate_succ]; rfl
        have hzb : z + 1 ≤ 388 := by
          have := congrArg List.length HT2.out
          simp at this; omega
        have hc2 : (c.toNat : Int) = 48 := by rw [hc]; rfl
        rw [hc2] at hx1 hx2
        have hll : l'.length ≤ 388 := by simp at hl; omega
        have hgl : l'.length < (l' ++ [c]).length := by simp
        have hez0 : -100000 ≤ e + (z : Int) := by omega
        have hez1 : e + (z : Int) ≤ 100388 := by omega
        clear hc2 hc HD HTl hx hnil hl
        generalize (bs (l' ++ [c])) = S at *
        go_wp2
        go_roundg l'.length
        case measure => exact hgl
        case rel => exact ⟨l', z + 1, rfl, hll, hzb, HT2.out, HD2.out, bl_s (bl_s HBr.out (Nat.le_refl _) _) (Nat.le_refl _) _⟩
      · have hc2 : ((c.toNat : Int) == 48) = false := beq_eq_false_iff_ne.2 (fun h => hc (UInt8.toNat_inj.1 (by have : (48 : UInt8).toNat = 48 := rfl; omega)))
        have hpos : 0 < pn := by
          rcases Nat.eq_zero_or_pos pn with h | h
          · have q := HT.out.2.2.2.1 h
            rw [HTl.out] at q
            exact absurd q (by
              intro q
              cases l' with
              | nil =>
                have := (List.cons.inj q).1
                exact hc this
              | cons x y =>
                have := congrArg List.length q
                simp at this)
          · exact h
        obtain ⟨Ta, Tn, Th, _, _, _, _⟩ := HT.out
        have hTh := Th hpos
        have hla : (l' ++ [c]).all isD = true := by
          have := Ta
          rw [HTl.out, List.all_append] at this
          simp only [Bool.and_eq_true] at this
          exact this.1
        have hlh : (l' ++ [c]).head? ≠ some 48 := by
          have := hTh
          rw [HTl.out] at this
          cases l' with
          | nil => simpa using this
          | cons x y => simpa using this
        have hle : (l' ++ [c]).getLast? ≠ some 48 := by simpa using hc
        have gA : goodB false (bs (l' ++ [c])) (e + (z : Int)) = true := good_of (by simp) (by omega) hla hlh hle (by omega) (by omega)
        have c5 := fun w => mult_dec false false (bs (l' ++ [c])) s (e + (z : Int)) e (by rw [bsz]; omega) (by omega) w
        have hval : num ((l' ++ [c]) ++ List.replicate z 48) = dec (dig s) s.size * K := by rw [← HTl.out, HXe.out]; exact Tn
        rw [times_yes gA HgB.out Hs0.out (by simp) hval] at c5
        have g1 : goodB false (bs (T ++ [49])) (e - 1) = true := good_of (by simp) (by simp; omega) (by rw [List.all_append, Ta]; decide) (by
          cases T with
          | nil => simp at hTh ⊢
          | cons x y => simpa using hTh) (by simp) (by omega) (by omega)
        have c6 := fun w => mult_dec false false (bs (T ++ [49])) s (e - 1) e (by rw [bsz]; simp; omega) (by omega) w
        rw [times_no g1 HgB.out Hs0.out (by simp)] at c6
        have b1 : bs (T ++ [49]) = bs T ++ ⟨#[49]⟩ := (bs_append T [49]).symm
        rw [b1] at c6
        have hTne : (bs T).toList ≠ [48] := by
          rw [toList_bs]
          intro q
          rw [q] at hTh
          exact hTh rfl
        have hTb : ((bs T).toList == [48]) = false := by simpa using hTne
        have hTd : decide ((bs T).toList = [48]) = false := decide_eq_false hTne
        have hSn := toList_ne (s := bs (l' ++ [c])) (by omega)
        have hcI : (c.toNat : Int) ≠ 48 := beq_eq_false_iff_ne.1 hc2
        have hTz : (bs T).size ≤ 388 := by rw [bsz]; exact hTl
        clear HD HT HTl hpos Ta Tn Th hTh hla hlh hle gA hval g1 b1 hnil hl hx hc hTne hn hcut hcut2
        generalize bs T = TS at *
        generalize (bs (l' ++ [c])) = S at *
        generalize (c.toNat : Int) = cI at *
        go_wp2_with fail
        refine (c5 _).mono ?_
        rintro r w5 ⟨rfl, hb5⟩
        have hbw5 : Below w4.heap.size w4 w5 := (by with_reducible repeat (first | exact Below.refl _ _ | exact HBr.out | refine bl_t ?_ hb9 | refine bl_t ?_ hb6 | refine bl_t ?_ hb5 | refine bl_d ?_ | refine bl_n ?_ _ | refine bl_a ?_ _ | refine bl_s ?_ (by first | exact Nat.le_refl _ | omega) _))
        have kb5 : ∀ o, w5.cell? ⟨w.heap.size, o, none⟩ = #[Value.bool false, .string s, .int .i64 e][o]? := fun o => by rw [hbw5.cell (p := ⟨w.heap.size, o, none⟩) hz4]; exact HK4.out o
        have hz5 : w.heap.size < w5.heap.size := Nat.lt_of_lt_of_le hz4 hbw5.size
        clear hb5 kc kf kz kb
        go_wp2_with fail
        refine (c6 _).mono ?_
        rintro r w6 ⟨rfl, hb6⟩
        have hbw6 : Below w4.heap.size w4 w6 := bl_t (bl_a hbw5 _) hb6
        go_wp2_with fail
        refine (h7 _ (HE4.out.below hbw6)).mono ?_
        rintro r w9 ⟨rfl, hb9⟩
        go_wp2
        go_ret
        exact ⟨rfl, bl_t (bl_t HW4.out hbw6) hb9⟩
end Go.Proofs.YtfhapeinfhjihaaGreatDoor

namespace Go.Proofs.YtfhapeinfhjihaaGreatDoor
open Go.RowKit Go.Sort

theorem times_walk (n : Bool) (s : ByteArray) (e : Int) (v : Value) (k : Nat) (f : Nat → Int) (a : Addr) (w : World) (hE : Env w a) (hs : s.size ≤ maxLen) (hR : Row w v k f) :
    Calls Tryz.prog 5 #[.agg #[.bool n, .string s, .int .i64 e], v] w fun r w' => r = .returned (.bool true) ∧ Below w.heap.size w w' := by
  by_cases h : goodB n s e = true ∧ n = false ∧ s.size ≠ 0 ∧ s.size ≤ 200 ∧ -100000 ≤ e ∧ e ≤ 100000 ∧ Can k f ∧ k ≤ 20
  · obtain ⟨g, rfl, h0, h2, e0, e1, hC, hk⟩ := h
    exact times_main s e v k f a w hE hR g h0 h2 e0 e1 hC hk
  · exact times_out n s e v k f a w hE hs hR h
end Go.Proofs.YtfhapeinfhjihaaGreatDoor
