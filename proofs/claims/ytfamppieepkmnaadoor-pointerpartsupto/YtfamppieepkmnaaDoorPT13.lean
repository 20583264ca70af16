/-
  PointerEscapes and PointerBack: what they come to at bytes and parts. Conditions: at most 2^38 bytes; the tables as they are laid.
-/
import Derived.Test.YtfamppieepkmnaaDoorPT12
import Derived.Test.YtfamppieepkmnaaDoorUC3
namespace Go.Proofs.YtfamppieepkmnaaDoor
open Go.RowKit
attribute [local go_sem] setCell_drewN alloc_drewN

theorem encL_cons (p : Int → Bool) (code : Int → List UInt8) (c : UInt8) (l : List UInt8) : encL p code (c :: l) = (if p (c.toNat : Int) = true then code (c.toNat : Int) else [c]) ++ encL p code l := by simp [encL]
theorem dec_enc {p : Int → Bool} {code : Int → List UInt8} {m : UInt8} {wd : Nat} {mean : List UInt8 → Option UInt8} (h1 : ∀ c : UInt8, p (c.toNat : Int) = false → c ≠ m) (h2 : ∀ c : UInt8, p (c.toNat : Int) = true → ∃ t, code (c.toNat : Int) = m :: t ∧ t.length = wd ∧ mean t = some c) (l : List UInt8) :
    decL m wd mean (encL p code l) = some l := by
  induction l with
  | nil => exact decL_nil _ _ _
  | cons c l ih =>
    rw [encL_cons]
    cases hp : p (c.toNat : Int)
    · simp only [Bool.false_eq_true, if_false]
      show decL m wd mean (c :: encL p code l) = _
      rw [decL_ne _ _ _ (h1 c hp), ih]; rfl
    · obtain ⟨t, e1, e2, e3⟩ := h2 c hp
      simp only [if_true]
      rw [e1]
      show decL m wd mean (m :: (t ++ encL p code l)) = _
      rw [decL_mark _ _ (by rw [List.length_append]; omega), List.take_append_of_le_length (by omega), List.take_of_length_le (by omega), e3, Option.bind_some, List.drop_append_of_le_length (by omega), List.drop_of_length_le (by omega)]
      show (decL m wd mean (encL p code l)).map _ = _
      rw [ih]; rfl
theorem all256 {P : UInt8 → Prop} (h : ∀ n : Fin 256, P (UInt8.ofNat n.val)) (c : UInt8) : P c := by
  have hc : c.toNat < 256 := UInt8.toNat_lt c
  have := h ⟨c.toNat, hc⟩
  simpa using this
theorem pc_ne : ∀ n : Fin 256, ndP ((UInt8.ofNat n.val).toNat : Int) = false → UInt8.ofNat n.val ≠ 37 := by decide +kernel
theorem pc_back : ∀ n : Fin 256, ndP ((UInt8.ofNat n.val).toNat : Int) = true → mP [hexU (((UInt8.ofNat n.val).toNat : Int) / 16), hexU (((UInt8.ofNat n.val).toNat : Int) % 16)] = some (UInt8.ofNat n.val) := by decide +kernel
theorem pc_bd : ∀ n : Fin 256, (encL ndP codeP [UInt8.ofNat n.val]).all (fun c => decide (32 < c.toNat ∧ c.toNat ≤ 126)) = true := by decide +kernel
theorem tl_ne : ∀ n : Fin 256, ndT ((UInt8.ofNat n.val).toNat : Int) = false → UInt8.ofNat n.val ≠ 126 := by decide +kernel
theorem tl_back : ∀ n : Fin 256, ndT ((UInt8.ofNat n.val).toNat : Int) = true → (codeT ((UInt8.ofNat n.val).toNat : Int)).head? = some 126 ∧ (codeT ((UInt8.ofNat n.val).toNat : Int)).tail.length = 1 ∧ mT (codeT ((UInt8.ofNat n.val).toNat : Int)).tail = some (UInt8.ofNat n.val) := by decide +kernel
theorem tl_47 : ∀ n : Fin 256, (encL ndT codeT [UInt8.ofNat n.val]).all (· != 47) = true := by decide +kernel
theorem unesc_enc (l : List UInt8) : decL 37 2 mP (encL ndP codeP l) = some l :=
  dec_enc (p := ndP) (code := codeP) (m := 37) (wd := 2) (mean := mP) (all256 pc_ne) (fun c hc => ⟨[hexU ((c.toNat : Int) / 16), hexU ((c.toNat : Int) % 16)], rfl, rfl, all256 (P := fun c => ndP (c.toNat : Int) = true → mP [hexU ((c.toNat : Int) / 16), hexU ((c.toNat : Int) % 16)] = some c) pc_back c hc⟩) l
theorem untilde_enc (l : List UInt8) : decL 126 1 mT (encL ndT codeT l) = some l :=
  dec_enc (all256 tl_ne) (fun c hc => by
    obtain ⟨h1, h2, h3⟩ := all256 (P := fun c => ndT (c.toNat : Int) = true → (codeT (c.toNat : Int)).head? = some 126 ∧ (codeT (c.toNat : Int)).tail.length = 1 ∧ mT (codeT (c.toNat : Int)).tail = some c) tl_back c hc
    cases hk : codeT (c.toNat : Int) with
    | nil => rw [hk] at h1; cases h1
    | cons a t => rw [hk] at h1 h2 h3; simp at h1; subst h1; exact ⟨t, rfl, h2, h3⟩) l
theorem enc_all {p : Int → Bool} {code : Int → List UInt8} {q : UInt8 → Bool} (h : ∀ c : UInt8, (encL p code [c]).all q = true) (l : List UInt8) : (encL p code l).all q = true := by
  induction l with
  | nil => rfl
  | cons c l ih =>
    have : encL p code (c :: l) = encL p code [c] ++ encL p code l := by rw [← encL_append]; rfl
    rw [this, List.all_append, h c, ih]; rfl
theorem esc_bd (l : List UInt8) (i : Nat) (h : i < (encL ndP codeP l).length) : 32 < bx (encL ndP codeP l) i ∧ bx (encL ndP codeP l) i ≤ 126 := by
  have := enc_all (all256 pc_bd) l
  rw [List.all_eq_true] at this
  have h2 := of_decide_eq_true (this _ (List.getElem_mem h))
  rw [bx_get _ i h]; omega
theorem text_tw (x : List UInt8) (xs : List (List UInt8)) : (encL ndT codeT x ++ textL xs).takeWhile (· != 47) = encL ndT codeT x ∧ (encL ndT codeT x ++ textL xs).dropWhile (· != 47) = textL xs := by
  have h := enc_all (all256 tl_47) x
  have ht : (textL xs).takeWhile (· != 47) = [] ∧ (textL xs).dropWhile (· != 47) = textL xs := by
    cases xs with
    | nil => exact ⟨rfl, rfl⟩
    | cons y ys =>
      have e : textL (y :: ys) = 47 :: (encL ndT codeT y ++ textL ys) := by simp [textL]
      rw [e]; simp
  generalize encL ndT codeT x = e at *
  induction e with
  | nil => exact ht
  | cons c e ih =>
    simp only [List.all_cons, Bool.and_eq_true] at h
    have := ih h.2
    rw [List.cons_append, List.takeWhile_cons, List.dropWhile_cons, h.1]
    simp only [if_true]
    exact ⟨by rw [this.1], this.2⟩
theorem parts_text (xs : List (List UInt8)) : partsL (textL xs) = some xs := by
  induction xs with
  | nil => exact partsL_nil
  | cons x xs ih =>
    have e : textL (x :: xs) = 47 :: (encL ndT codeT x ++ textL xs) := by simp [textL]
    rw [e, partsL_cons, (text_tw x xs).1, (text_tw x xs).2, untilde_enc, Option.bind_some, ih]
    rfl
theorem parse_text (xs : List (List UInt8)) : parseL (textL xs) = some xs := by
  rw [parseL, if_pos, parts_text]
  cases xs with
  | nil => exact .inl rfl
  | cons x xs => right; simp [textL]

set_option maxRecDepth 100000 in
set_option maxHeartbeats 800000 in
theorem back_walk (v : Value) (xs : List (List UInt8)) (w : World) (hv : SRow w v xs) (hs : sumL xs ≤ 274877906944) (hE : Env w) :
    Calls Tryd.prog 4 #[v] w fun r w' => r = .returned (.bool true) ∧ Below w.heap.size w w' := by
  have hxl : xs.length ≤ sumL xs := by
    clear hs hv
    induction xs with
    | nil => simp
    | cons x xs ih =>
      have e2 : sumL (x :: xs) = x.length + 1 + sumL xs := by simp [sumL]
      rw [e2, List.length_cons]; omega
  have h1 := text_any v xs w hv (by omega)
  have h2 : ∀ w', Calls Tryd.prog 6 #[.string (bs (textL xs))] w' fun r w2 => ∃ v2, r = .returned (.tuple #[v2, .int .i64 0]) ∧ SRow w2 v2 xs ∧ Below w'.heap.size w' w2 := fun w' => by
    have := parse_any (bs (textL xs)) w' (by rw [bs_size]; have := textL_len xs; omega)
    rw [bs_list, parse_text] at this
    exact this
  have h3 : ∀ w' v2, Below w.heap.size w w' → SRow w' v2 xs → Calls Tryd.prog 10 #[v2, v] w' fun r w2 => r = .returned (.bool true) ∧ Below w'.heap.size w' w2 := fun w' v2 hb hv2 => by
    have := texts_any v2 v xs xs w' hv2 (hv.below hb) (by omega)
    rw [decide_eq_true rfl] at this
    exact this
  have h4 := fun (w' : World) (hb : Below w.heap.size w w') => heads_any w' (hE.below hb)
  clear hv hE
  go_enter Tryd.func4, Tryd.ntmps4
  go_wp2_with fail
  refine h1.mono ?_
  rintro r w1 ⟨rfl, hb1⟩
  go_wp2_with fail
  refine (h2 _).mono ?_
  rintro r w2 ⟨v2, rfl, hv2, hb2⟩
  have hbel2 := bl_t hb1 hb2
  clear h1 h2 hb1 hb2
  go_wp2_with fail
  refine (h3 _ _ hbel2 hv2).mono ?_
  rintro r w3 ⟨rfl, hb3⟩
  have hbel3 := bl_t hbel2 hb3
  clear h3 hb3 hv2 hbel2
  go_wp2_with fail
  refine (h4 _ hbel3).mono ?_
  rintro r w4 ⟨rfl, hb4⟩
  go_wp2
  go_ret
  exact ⟨rfl, bl_t hbel3 hb4⟩

set_option maxRecDepth 100000 in
set_option maxHeartbeats 1600000 in
theorem escapes_walk (s : ByteArray) (w : World) (hs : s.size ≤ 274877906944) (hE : Env w) :
    Calls Tryd.prog 5 #[.string s] w fun r w' => r = .returned (.bool true) ∧ Below w.heap.size w w' := by
  have hl := len_of s
  have h1 := escape_any s w (by omega)
  have hel := enc_len (p := ndP) codeP_len s.data.toList
  rw [hl] at hel
  have hu : ∀ w', Below w.heap.size w w' → Calls Tryd.prog 8 #[.string (bs (encL ndP codeP s.data.toList))] w' fun r w2 => r = .returned (uV (if gdL s.data.toList = true then some s.data.toList else none)) ∧ Below w'.heap.size w' w2 := fun w' hb => by
    have := unescape_any (bs (encL ndP codeP s.data.toList)) w' (hE.tab.below hb) (by rw [bs_size]; omega)
    rw [bs_list, unescL, unesc_enc, Option.bind_some] at this
    exact this
  have hc := fun w' => conv_str w' s
  have hg : ∀ w', Calls Tryd.prog 16 #[.slice (some ⟨w'.heap.size, 0, none⟩) s.size (grownCap w' s.size 0 5)] (Lib.bytesWorld w' 5 s) fun e w2 => e = .returned (.tuple #[.int .i64 ((good s.data.toList.length (bx s.data.toList)).1 : Nat), .bool (gdL s.data.toList)]) ∧ Below w'.heap.size w' w2 := fun w' =>
    (rgood_any _ _ _ _ (byt_str w' s (by unfold maxLen; omega))).mono fun e w2 ⟨h1, h2⟩ => ⟨h1, h2 ▸ bl_bytes w' s⟩
  have h4 := fun (w' : World) (hb : Below w.heap.size w w') => heads_any w' (hE.below hb)
  have hbd : ∀ i, i < (bs (encL ndP codeP s.data.toList)).size → 32 < bx (bs (encL ndP codeP s.data.toList)).data.toList i ∧ bx (bs (encL ndP codeP s.data.toList)).data.toList i ≤ 126 := fun i hi => by
    rw [bs_list]; exact esc_bd _ i (by rw [← bs_size]; exact hi)
  have hXs : (bs (encL ndP codeP s.data.toList)).size ≤ 1099511627776 := by rw [bs_size]; omega
  generalize bs (encL ndP codeP s.data.toList) = X at *
  generalize ((good s.data.toList.length (bx s.data.toList)).1 : Nat) = gn at *
  have HB : Hid (∀ i, i < X.size → 32 < bx X.data.toList i ∧ bx X.data.toList i ≤ 126) := hbd
  have hmI : (X.size : Int) ≤ 1099511627776 := by omega
  have heq : (s.toList == s.toList) = true := by simp
  clear hbd hE hel
  go_enter Tryd.func5, Tryd.ntmps5
  go_wp2_with fail
  refine h1.mono ?_
  rintro r w1 ⟨rfl, hb1⟩
  clear h1
  go_wp2_with fail
  go_loopw [4] (fun t wr => ∃ i : Nat, i ≤ X.size ∧ t = .int .i64 i ∧ wr = w1) (fun t _ => X.size - (intOf t).toNat)
  case atStart => exact ⟨0, Nat.zero_le _, rfl, rfl⟩
  case round =>
    obtain ⟨i, hi, rfl, rfl⟩ := hrel
    by_cases hlt : i < X.size
    · have hI : (i : Int) < (X.size : Int) := by omega
      have hx := bx_at X i hlt
      obtain ⟨b1, b2⟩ := HB.out i hlt
      generalize bx X.data.toList i = c at *
      have b3 : ¬ c ≤ 32 := by omega
      have b4 : ¬ 126 < c := by omega
      clear hu hc hg h4
      go_wp2
      go_roundw
      case rel => exact ⟨i + 1, by omega, by go_num, trivial⟩
      case measure => simp [intOf]; omega
    · have hI : ¬ (i : Int) < (X.size : Int) := by omega
      cases hgd : gdL s.data.toList
      · rw [hgd] at hg hu
        simp only [Bool.false_eq_true, if_false, uV] at hu
        go_wp2_with fail
        refine (hu _ hb1).mono ?_
        rintro r w2 ⟨rfl, hb2⟩
        have hbel2 := bl_t hb1 hb2
        go_wp2_with fail
        refine (hg _).mono ?_
        rintro r w3 ⟨rfl, hb3⟩
        have hbel3 := bl_t hbel2 hb3
        clear hu hg hc
        go_wp2_with fail
        refine (h4 _ hbel3).mono ?_
        rintro r w4 ⟨rfl, hb4⟩
        go_wp2
        go_ret
        exact ⟨rfl, bl_t hbel3 hb4⟩
      · rw [hgd] at hg hu
        simp only [if_true, uV, bs_self] at hu
        go_wp2_with fail
        refine (hu _ hb1).mono ?_
        rintro r w2 ⟨rfl, hb2⟩
        have hbel2 := bl_t hb1 hb2
        go_wp2_with fail
        refine (hg _).mono ?_
        rintro r w3 ⟨rfl, hb3⟩
        have hbel3 := bl_t hbel2 hb3
        clear hu hg hc
        go_wp2_with fail
        refine (h4 _ hbel3).mono ?_
        rintro r w4 ⟨rfl, hb4⟩
        go_wp2
        go_ret
        exact ⟨rfl, bl_t hbel3 hb4⟩
end Go.Proofs.YtfamppieepkmnaaDoor
