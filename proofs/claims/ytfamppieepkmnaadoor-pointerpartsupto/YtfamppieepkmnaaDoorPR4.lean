/-
  What ref7.Unescape answers. Conditions: at most 2^38 bytes.
-/
import Derived.Test.YtfamppieepkmnaaDoorPR3
namespace Go.Proofs.YtfamppieepkmnaaDoor
open Go.RowKit
attribute [local go_sem] setCell_drewN alloc_drewN

theorem w64 (z : Int) (h0 : 0 ≤ z) (h1 : z < 1000000) : IntKind.i64.wrap z = z := by
  obtain ⟨n, rfl⟩ := Int.eq_ofNat_of_zero_le h0
  exact Lib.wrap_i64_small _ (by omega)
theorem w8f : ∀ n : Fin 256, IntKind.u8.wrap (n.val : Int) = (n.val : Int) := by decide +kernel
theorem w8 (z : Int) (h0 : 0 ≤ z) (h1 : z < 256) : IntKind.u8.wrap z = z := by
  have := w8f ⟨z.toNat, by omega⟩
  simp only [Int.toNat_of_nonneg h0] at this
  exact this

set_option maxRecDepth 100000 in
set_option maxHeartbeats 800000 in
theorem runescape_any (s : ByteArray) (w : World) (hs : s.size ≤ 274877906944) :
    Calls Tryd.prog 9 #[.string s] w fun r w' => r = .returned (uV (unescL s.data.toList)) ∧ Below w.heap.size w w' := by
  have hmI : (s.size : Int) ≤ 274877906944 := by omega
  have hl := len_of s
  go_enter Tryd.func9, Tryd.ntmps9
  go_wp2_with fail
  go_loopw [4, 5] (fun v t wr => ∃ (i : Nat) (o : List UInt8), i ≤ s.size ∧ t = .int .i64 i ∧ OwnY wr w.heap.size v o ∧ o.length ≤ i ∧ Hid (decL 37 2 mP s.data.toList = (decL 37 2 mP (s.data.toList.drop i)).map (o ++ ·)) ∧ Below w.heap.size w wr) (fun _ t _ => s.size - (intOf t).toNat)
  case atStart => exact ⟨0, [], Nat.zero_le _, rfl, World.ownsRow_nil _ _ _ _, Nat.zero_le _, by show _ = _; rw [List.drop_zero]; cases decL 37 2 mP s.data.toList <;> rfl, Below.refl _ _⟩
  case round =>
    obtain ⟨i, o, hi, rfl, hO, ho, HD, hbel⟩ := hrel
    by_cases hlt : i < s.size
    · have hI : (i : Int) < (s.size : Int) := by omega
      have hx := bx_at s i hlt
      have hil : i < s.data.toList.length := by omega
      have hd := HD.out
      rw [List.drop_eq_getElem_cons hil] at hd
      by_cases c1 : s.data.toList[i] = 37
      · have hb37 : bx s.data.toList i = 37 := by rw [bx_get _ i hil, c1]; rfl
        rw [hb37] at hx
        rw [c1] at hd
        by_cases e2 : s.size ≤ i + 2
        · have eJ : (s.size : Int) ≤ (i : Int) + 2 := by omega
          have HE : Hid (unescL s.data.toList = none) := by
            show _ = _
            rw [unescL, hd, decL_short _ _ (by rw [List.length_drop]; omega)]; rfl
          clear hd HD hO hb37 c1
          go_wp2_with fail
          go_ret2
          exact ⟨by rw [HE.out]; rfl, hbel⟩
        · have eJ : ¬ (s.size : Int) ≤ (i : Int) + 2 := by omega
          have eK : (i : Int) + 1 < (s.size : Int) := by omega
          have eL : (i : Int) + 2 < (s.size : Int) := by omega
          have hx1 := bx_at s (i + 1) (by omega)
          have hx2 := bx_at s (i + 2) (by omega)
          have hh1 := fun w' => rhex_any (bx s.data.toList (i + 1)) w' (bx_lo _ _) (bx_hi _ _)
          have hh2 := fun w' => rhex_any (bx s.data.toList (i + 2)) w' (bx_lo _ _) (bx_hi _ _)
          have g1 := bx_get s.data.toList (i + 1) (by omega)
          have g2 := bx_get s.data.toList (i + 2) (by omega)
          rw [decL_mark _ _ (by rw [List.length_drop]; omega), drop_two _ _ (by omega), List.drop_drop] at hd
          simp only [mP] at hd
          rw [← g1, ← g2] at hd
          clear g1 g2 HD hb37 c1
          have p0 := bx_lo s.data.toList (i + 1)
          have p1 := bx_hi s.data.toList (i + 1)
          have q0 := bx_lo s.data.toList (i + 2)
          have q1 := bx_hi s.data.toList (i + 2)
          generalize bx s.data.toList (i + 1) = p at *
          generalize bx s.data.toList (i + 2) = q at *
          cases h1 : hexV p with
          | none =>
            have HE : Hid (unescL s.data.toList = none) := by show _ = _; rw [unescL, hd, h1]; rfl
            rw [hexI_none h1] at hh1
            clear hd hO hh2 h1
            go_wp2_with (go_at_call 24; refine (hh1 _).mono ?_; rintro r w1 ⟨rfl, rfl⟩)
            go_ret2
            exact ⟨by rw [HE.out]; rfl, hbel⟩
          | some x =>
            obtain ⟨x0, x1⟩ := hexV_bd h1
            rw [hexI_some h1] at hh1
            have xN : ¬ x < 0 := by omega
            cases h2 : hexV q with
            | none =>
              have HE : Hid (unescL s.data.toList = none) := by show _ = _; rw [unescL, hd, h1, h2]; rfl
              rw [hexI_none h2] at hh2
              clear hd hO h1 h2
              go_wp2_with fail
              refine (hh1 _).mono ?_
              rintro r w1 ⟨rfl, rfl⟩
              go_wp2_with fail
              refine (hh2 _).mono ?_
              rintro r w2 ⟨rfl, rfl⟩
              go_wp2
              go_ret2
              exact ⟨by rw [HE.out]; rfl, hbel⟩
            | some y =>
              obtain ⟨y0, y1⟩ := hexV_bd h2
              rw [hexI_some h2] at hh2
              have yN : ¬ y < 0 := by omega
              have hdv : ((UInt8.ofNat (16 * x + y).toNat).toNat : Int) = 16 * x + y := by rw [UInt8.toNat_ofNat_of_lt' (by show _ < 256; omega)]; omega
              have HD2 : Hid (decL 37 2 mP s.data.toList = (decL 37 2 mP (s.data.toList.drop (i + 3))).map ((o ++ [UInt8.ofNat (16 * x + y).toNat]) ++ ·)) := by
                show _ = _
                rw [hd, h1, h2]
                simp only [Option.bind_some, Option.map_some]
                rw [omap_map]
                congr 1
                funext z
                simp
              generalize UInt8.ofNat (16 * x + y).toNat = d at *
              have hEw : IntKind.u8.wrap (IntKind.i64.wrap (IntKind.i64.wrap (16 * x) + y)) = 16 * x + y := by rw [w64 (16 * x) (by omega) (by omega), w64 (16 * x + y) (by omega) (by omega), w8 (16 * x + y) (by omega) (by omega)]
              have hO1 : OwnY (wr.alloc (.cells #[.int .u8 (IntKind.u8.wrap (IntKind.i64.wrap (IntKind.i64.wrap (16 * x) + y)))] 5)).drew w.heap.size u4 o := hO.below (bl_d (bl_a (Below.refl _ _) _))
              have hcl : (wr.alloc (.cells #[.int .u8 (IntKind.u8.wrap (IntKind.i64.wrap (IntKind.i64.wrap (16 * x) + y)))] 5)).drew.cell? ((⟨wr.heap.size, 0, none⟩ : Addr).add 0) = some (.int .u8 (d.toNat : Int)) := by
                rw [hdv, ← hEw]
                show (wr.alloc (.cells #[.int .u8 (IntKind.u8.wrap (IntKind.i64.wrap (IntKind.i64.wrap (16 * x) + y)))] 5)).cell? ((⟨wr.heap.size, 0, none⟩ : Addr).add 0) = _
                rw [add_at, World.cell?_alloc_at _ _ _ _ rfl]; rfl
              have hbx : w.heap.size ≤ (wr.alloc (.cells #[.int .u8 (IntKind.u8.wrap (IntKind.i64.wrap (IntKind.i64.wrap (16 * x) + y)))] 5)).drew.heap.size := (bl_d (bl_a hbel _)).size
              have hol : o.length + 1 ≤ 140737488355328 := by omega
              have HB : Hid (∀ w', Below w.heap.size (wr.alloc (.cells #[.int .u8 (IntKind.u8.wrap (IntKind.i64.wrap (IntKind.i64.wrap (16 * x) + y)))] 5)).drew w' → Below w.heap.size w w') := fun w' h => (bl_d (bl_a hbel _)).trans h
              clear hEw
              have xp := hexI_some h1
              have yq := hexI_some h2
              clear hd h1 h2
              go_wp2_with fail
              refine (hh1 _).mono ?_
              rintro r w1 ⟨rfl, rfl⟩
              go_wp2_with fail
              refine (hh2 _).mono ?_
              rintro r w2 ⟨rfl, rfl⟩
              go_wp2_with fail
              have ib1 : (0 : Int) ≤ (i : Int) + 1 ∧ (i : Int) + 1 < (s.size : Int) := ⟨by omega, by omega⟩
              have ib2 : (0 : Int) ≤ (i : Int) + 2 ∧ (i : Int) + 2 < (s.size : Int) := ⟨by omega, by omega⟩
              have iw1 : IntKind.i64.wrap ((i : Int) + 1) = (i : Int) + 1 := by
                rw [show (i : Int) + 1 = ((i + 1 : Nat) : Int) by omega]; exact Lib.wrap_i64_small _ (by omega)
              have iw2 : IntKind.i64.wrap ((i : Int) + 2) = (i : Int) + 2 := by
                rw [show (i : Int) + 2 = ((i + 2 : Nat) : Int) by omega]; exact Lib.wrap_i64_small _ (by omega)
              have it2 : ((i : Int) + 2).toNat = i + 2 := by omega
              have hx3 : ∀ h, ((s[((i : Int) + 2).toNat]'h).toNat : Int) = q := fun h => by
                rw [← hx2]
                congr 2
              clear eJ eK eL xN yN hh1 hh2
              go_region_held3 (fun _ => True) (trivial) (first | (go_at_call 24; refine (rhex_any _ _ (by assumption) (by assumption)).mono ?_; rintro r w3 ⟨rfl, rfl⟩; first | rw [xp] | rw [yq]) | (refine step_append_byte (by rfl) _ _ (by rfl) w.heap.size _ _ (by rfl) hO1 d _ (by rfl) hcl hol hbx ?_; intro v4 w4 hO4 hb4) | fail)
              all_goals
                have hbel4 := HB.out _ hb4
                clear hO1 hcl hbx HB hb4
                go_wp2
                go_roundw
                case rel => exact ⟨i + 3, o ++ [d], by omega, by go_num, hO4, by rw [List.length_append]; simp only [List.length_cons, List.length_nil]; omega, HD2, hbel4⟩
                case measure => simp [intOf]; omega
      · have hc37 : bx s.data.toList i ≠ 37 := by
          rw [bx_get _ i hil]; intro e; exact c1 (UInt8.toNat_inj.1 (by show _ = 37; omega))
        have hneq : (bx s.data.toList i != 37) = true := by simpa using hc37
        have hcv := bx_get s.data.toList i hil
        have HD2 : Hid (decL 37 2 mP s.data.toList = (decL 37 2 mP (s.data.toList.drop (i + 1))).map ((o ++ [s.data.toList[i]]) ++ ·)) := by
          show _ = _
          rw [hd, decL_ne _ _ _ c1, omap_map]
          congr 1
          funext z
          simp
        clear hd HD c1
        generalize s.data.toList[i] = d at *
        generalize bx s.data.toList i = c at *
        subst hcv
        have hO1 : OwnY (wr.alloc (.cells #[.int .u8 (d.toNat : Int)] 5)) w.heap.size u4 o := hO.below (bl_a (Below.refl _ _) _)
        have hcl : (wr.alloc (.cells #[.int .u8 (d.toNat : Int)] 5)).cell? ((⟨wr.heap.size, 0, none⟩ : Addr).add 0) = some (.int .u8 (d.toNat : Int)) := by
          rw [add_at, World.cell?_alloc_at _ _ _ _ rfl]; rfl
        have hbx : w.heap.size ≤ (wr.alloc (.cells #[.int .u8 (d.toNat : Int)] 5)).heap.size := (bl_a hbel _).size
        go_wp2_with (at_builtin; refine wpList_append_byte rfl (.tmp 18) (.tmp 22) rfl w.heap.size _ o rfl hO1 d ⟨wr.heap.size, 0, none⟩ rfl hcl (by omega) hbx ?_)
        intro v4 w4 hO4 hb4
        have hbel4 : Below w.heap.size w w4 := (bl_a hbel _).trans hb4
        clear hO1 hcl hbx hO
        go_wp2
        go_roundw
        case rel => exact ⟨i + 1, o ++ [d], by omega, by go_num, hO4, by rw [List.length_append]; simp only [List.length_cons, List.length_nil]; omega, HD2, hbel4⟩
        case measure => simp [intOf]; omega
    · have hI : ¬ (i : Int) < (s.size : Int) := by omega
      have hd : decL 37 2 mP s.data.toList = some o := by
        have e : s.data.toList.drop i = [] := List.drop_eq_nil_of_le (by omega)
        rw [HD.out, e, decL_nil]; simp
      have hg := rgood_any _ _ _ wr hO.byt
      have hcv := conv_own hO
      cases hgd : gdL o
      · have HE : Hid (unescL s.data.toList = none) := by show _ = _; unfold unescL; rw [hd, Option.bind_some, hgd]; rfl
        have hgd2 : (good o.length (bx o)).2 = false := hgd
        rw [hgd2] at hg
        clear hd HD hO hgd hgd2
        go_wp2_with (go_at_call 16; refine hg.mono ?_; rintro r w1 ⟨rfl, rfl⟩)
        go_ret2
        exact ⟨by rw [HE.out]; rfl, hbel⟩
      · have HE : Hid (unescL s.data.toList = some o) := by show _ = _; unfold unescL; rw [hd, Option.bind_some, hgd]; rfl
        have hgd2 : (good o.length (bx o)).2 = true := hgd
        rw [hgd2] at hg
        clear hd HD hO hgd hgd2
        go_wp2_with (go_at_call 16; refine hg.mono ?_; rintro r w1 ⟨rfl, rfl⟩)
        go_ret2
        exact ⟨by rw [HE.out]; rfl, hbel⟩
end Go.Proofs.YtfamppieepkmnaaDoor
