/-
  What ref8.Resolve answers. Conditions: at most 2^44 bytes each.
-/
import Derived.Test.YtgmigdfkdioalaaUR5
namespace Go.Proofs.Ytgmigdfkdioalaa
open Go.RowKit
attribute [local go_sem] setCell_drewN alloc_drewN

set_option maxRecDepth 100000 in
set_option maxHeartbeats 6400000 in
theorem rresolve_any (b u : Ur) (w : World) (hs : b.path.length ≤ 17592186044416) (hs2 : u.path.length ≤ 17592186044416) :
    Calls Try.prog 19 #[uV b, uV u] w fun e w' => e = .returned (uV (resolveL b u)) ∧ Below w.heap.size w w' := by
  have hfl := fullL_len b u
  have hD := fun w' => rdots_any u.path w' (by omega)
  have hDf := fun w' => rdots_any (fullL b u) w' (by omega)
  have HR : Hid (resolveL b u = if !u.sch.isEmpty then { u with path := dotsL u.path }
    else if u.hA then { u with sch := b.sch, path := dotsL u.path }
    else if !u.path.isEmpty then { u with sch := b.sch, auth := b.auth, hA := b.hA, path := dotsL (fullL b u) }
    else if !u.hQ then { u with sch := b.sch, auth := b.auth, hA := b.hA, path := b.path, q := b.q, hQ := b.hQ }
    else { u with sch := b.sch, auth := b.auth, hA := b.hA, path := b.path }) := rfl
  have E1 := emp_bs u.sch
  have E2 := emp_bs u.path
  have E3 := emp_bs b.path
  have HF : Hid (fullL b u = if u.path.head? = some 47 then u.path else if b.hA && b.path.isEmpty then 47 :: u.path else b.path.take (lst b.path 47) ++ u.path) := rfl
  generalize resolveL b u = R at *
  generalize fullL b u = fl at *
  obtain ⟨sch, auth, path, q, frag, hA, hQ, hF⟩ := u
  obtain ⟨bsch, bauth, bpath, bq, bfrag, bhA, bhQ, bhF⟩ := b
  simp only [uV, uc] at *
  generalize dotsL path = dp at *
  generalize dotsL fl = dfl at *
  clear hfl
  cases hse : sch.isEmpty
  · rw [hse] at HR E1
    clear hDf E2 E3 HF hse
    go_enter Try.func19, Try.ntmps19
    go_wp2_with (go_at_call 21; refine (hD _).mono ?_; rintro e w' ⟨rfl, rfl⟩)
    go_returns
    exact ⟨by rw [HR.out]; rfl, by with_reducible repeat (first | exact Below.refl _ _ | refine bl_a ?_ _)⟩
  rw [hse] at HR E1
  clear hse
  cases hA
  rotate_left
  · clear hDf E2 E3 HF
    go_enter Try.func19, Try.ntmps19
    go_wp2_with (go_at_call 21; refine (hD _).mono ?_; rintro e w' ⟨rfl, rfl⟩)
    go_returns
    exact ⟨by rw [HR.out]; rfl, by with_reducible repeat (first | exact Below.refl _ _ | refine bl_a ?_ _)⟩
  go_enter Try.func19, Try.ntmps19
  go_wp2_with fail
  have kb : Bk ((((w.alloc (.cells #[.string (bs bsch), .string (bs bauth), .string (bs bpath), .string (bs bq), .string (bs bfrag), .bool bhA, .bool bhQ, .bool bhF] 23)).alloc (.cells #[.string (bs sch), .string (bs auth), .string (bs path), .string (bs q), .string (bs frag), .bool false, .bool hQ, .bool hF] 23)).alloc (.cells #[.string ⟨#[]⟩, .string ⟨#[]⟩, .string ⟨#[]⟩, .string ⟨#[]⟩, .string ⟨#[]⟩, .bool false, .bool false, .bool false] 23)).alloc (.cells #[.string (bs bsch), .string (bs auth), .string (bs path), .string (bs q), .string (bs frag), .bool false, .bool hQ, .bool hF] 23)) w.heap.size #[.string (bs bsch), .string (bs bauth), .string (bs bpath), .string (bs bq), .string (bs bfrag), .bool bhA, .bool bhQ, .bool bhF] := (((Bk.new _ _ _).al _).al _).al _
  have ku : Bk ((((w.alloc (.cells #[.string (bs bsch), .string (bs bauth), .string (bs bpath), .string (bs bq), .string (bs bfrag), .bool bhA, .bool bhQ, .bool bhF] 23)).alloc (.cells #[.string (bs sch), .string (bs auth), .string (bs path), .string (bs q), .string (bs frag), .bool false, .bool hQ, .bool hF] 23)).alloc (.cells #[.string ⟨#[]⟩, .string ⟨#[]⟩, .string ⟨#[]⟩, .string ⟨#[]⟩, .string ⟨#[]⟩, .bool false, .bool false, .bool false] 23)).alloc (.cells #[.string (bs bsch), .string (bs auth), .string (bs path), .string (bs q), .string (bs frag), .bool false, .bool hQ, .bool hF] 23)) (w.heap.size + 1) #[.string (bs sch), .string (bs auth), .string (bs path), .string (bs q), .string (bs frag), .bool false, .bool hQ, .bool hF] := ((Bk.new' _ _ _ _ (by simp)).al _).al _
  have kz : Bk ((((w.alloc (.cells #[.string (bs bsch), .string (bs bauth), .string (bs bpath), .string (bs bq), .string (bs bfrag), .bool bhA, .bool bhQ, .bool bhF] 23)).alloc (.cells #[.string (bs sch), .string (bs auth), .string (bs path), .string (bs q), .string (bs frag), .bool false, .bool hQ, .bool hF] 23)).alloc (.cells #[.string ⟨#[]⟩, .string ⟨#[]⟩, .string ⟨#[]⟩, .string ⟨#[]⟩, .string ⟨#[]⟩, .bool false, .bool false, .bool false] 23)).alloc (.cells #[.string (bs bsch), .string (bs auth), .string (bs path), .string (bs q), .string (bs frag), .bool false, .bool hQ, .bool hF] 23)) (w.heap.size + 2) #[.string ⟨#[]⟩, .string ⟨#[]⟩, .string ⟨#[]⟩, .string ⟨#[]⟩, .string ⟨#[]⟩, .bool false, .bool false, .bool false] := (Bk.new' _ _ _ _ (by simp)).al _
  have kt : Bk ((((w.alloc (.cells #[.string (bs bsch), .string (bs bauth), .string (bs bpath), .string (bs bq), .string (bs bfrag), .bool bhA, .bool bhQ, .bool bhF] 23)).alloc (.cells #[.string (bs sch), .string (bs auth), .string (bs path), .string (bs q), .string (bs frag), .bool false, .bool hQ, .bool hF] 23)).alloc (.cells #[.string ⟨#[]⟩, .string ⟨#[]⟩, .string ⟨#[]⟩, .string ⟨#[]⟩, .string ⟨#[]⟩, .bool false, .bool false, .bool false] 23)).alloc (.cells #[.string (bs bsch), .string (bs auth), .string (bs path), .string (bs q), .string (bs frag), .bool false, .bool hQ, .bool hF] 23)) (w.heap.size + 3) #[.string (bs bsch), .string (bs auth), .string (bs path), .string (bs q), .string (bs frag), .bool false, .bool hQ, .bool hF] := Bk.new' _ _ _ _ (by simp)
  have hb0 : Below w.heap.size w ((((w.alloc (.cells #[.string (bs bsch), .string (bs bauth), .string (bs bpath), .string (bs bq), .string (bs bfrag), .bool bhA, .bool bhQ, .bool bhF] 23)).alloc (.cells #[.string (bs sch), .string (bs auth), .string (bs path), .string (bs q), .string (bs frag), .bool false, .bool hQ, .bool hF] 23)).alloc (.cells #[.string ⟨#[]⟩, .string ⟨#[]⟩, .string ⟨#[]⟩, .string ⟨#[]⟩, .string ⟨#[]⟩, .bool false, .bool false, .bool false] 23)).alloc (.cells #[.string (bs bsch), .string (bs auth), .string (bs path), .string (bs q), .string (bs frag), .bool false, .bool hQ, .bool hF] 23)) := bl_a (bl_a (bl_a (bl_a (Below.refl _ _) _) _) _) _
  generalize ((((w.alloc (.cells #[.string (bs bsch), .string (bs bauth), .string (bs bpath), .string (bs bq), .string (bs bfrag), .bool bhA, .bool bhQ, .bool bhF] 23)).alloc (.cells #[.string (bs sch), .string (bs auth), .string (bs path), .string (bs q), .string (bs frag), .bool false, .bool hQ, .bool hF] 23)).alloc (.cells #[.string ⟨#[]⟩, .string ⟨#[]⟩, .string ⟨#[]⟩, .string ⟨#[]⟩, .string ⟨#[]⟩, .bool false, .bool false, .bool false] 23)).alloc (.cells #[.string (bs bsch), .string (bs auth), .string (bs path), .string (bs q), .string (bs frag), .bool false, .bool hQ, .bool hF] 23)) = W0 at *
  obtain ⟨b0, b1, b2, b3, b4, b5, b6, b7⟩ := kb.c8
  obtain ⟨t0, t1, t2, t3, t4, t5, t6, t7⟩ := kt.c8
  obtain ⟨y0, y1, y2, y3, y4, y5, y6, y7⟩ := kt.z8
  go_region
  have kb1 : Bk ((W0.setCell ⟨w.heap.size + 3, 1, none⟩ (.string (bs bauth))).setCell ⟨w.heap.size + 3, 5, none⟩ (.bool bhA)).drew w.heap.size #[.string (bs bsch), .string (bs bauth), .string (bs bpath), .string (bs bq), .string (bs bfrag), .bool bhA, .bool bhQ, .bool bhF] := ((kb.away (by simp)).away (by simp)).dw
  have ku1 : Bk ((W0.setCell ⟨w.heap.size + 3, 1, none⟩ (.string (bs bauth))).setCell ⟨w.heap.size + 3, 5, none⟩ (.bool bhA)).drew (w.heap.size + 1) #[.string (bs sch), .string (bs auth), .string (bs path), .string (bs q), .string (bs frag), .bool false, .bool hQ, .bool hF] := ((ku.away (by simp)).away (by simp)).dw
  have kz1 : Bk ((W0.setCell ⟨w.heap.size + 3, 1, none⟩ (.string (bs bauth))).setCell ⟨w.heap.size + 3, 5, none⟩ (.bool bhA)).drew (w.heap.size + 2) #[.string ⟨#[]⟩, .string ⟨#[]⟩, .string ⟨#[]⟩, .string ⟨#[]⟩, .string ⟨#[]⟩, .bool false, .bool false, .bool false] := ((kz.away (by simp)).away (by simp)).dw
  have kt1 : Bk ((W0.setCell ⟨w.heap.size + 3, 1, none⟩ (.string (bs bauth))).setCell ⟨w.heap.size + 3, 5, none⟩ (.bool bhA)).drew (w.heap.size + 3) #[.string (bs bsch), .string (bs bauth), .string (bs path), .string (bs q), .string (bs frag), .bool bhA, .bool hQ, .bool hF] := ((kt.set 1 (.string (bs bauth)) rfl).set 5 (.bool bhA) rfl).dw
  have hb1 : Below w.heap.size w ((W0.setCell ⟨w.heap.size + 3, 1, none⟩ (.string (bs bauth))).setCell ⟨w.heap.size + 3, 5, none⟩ (.bool bhA)).drew := bl_d (bl_s (bl_s hb0 (by omega) _) (by omega) _)
  generalize ((W0.setCell ⟨w.heap.size + 3, 1, none⟩ (.string (bs bauth))).setCell ⟨w.heap.size + 3, 5, none⟩ (.bool bhA)).drew = W1 at *
  clear b0 b1 b2 b3 b4 b5 b6 b7 t0 t1 t2 t3 t4 t5 t6 t7 y0 y1 y2 y3 y4 y5 y6 y7 kb ku kz kt hb0
  obtain ⟨b0, b1, b2, b3, b4, b5, b6, b7⟩ := kb1.c8
  obtain ⟨u0, u1, u2, u3, u4, u5, u6, u7⟩ := ku1.c8
  obtain ⟨t0, t1, t2, t3, t4, t5, t6, t7⟩ := kt1.c8
  obtain ⟨y0, y1, y2, y3, y4, y5, y6, y7⟩ := kt1.z8
  obtain ⟨p0, p1, p2, p3, p4, p5, p6, p7⟩ := kz1.c8
  obtain ⟨z0, z1, z2, z3, z4, z5, z6, z7⟩ := kz1.z8
  cases hpe : path.isEmpty
  · rw [hpe] at HR E2
    have hpn : path ≠ [] := by intro e; rw [e] at hpe; cases hpe
    have hz := bs_size path
    have hzb := bs_size bpath
    have hpos : 0 < path.length := List.length_pos_iff.2 hpn
    have hI : (0 : Int) < (path.length : Int) := by omega
    have hx := bx_at (bs path) 0 (by rw [hz]; exact hpos)
    rw [bs_list] at hx
    have hh : (path.head? = some 47) ↔ (bx path 0 == 47) = true := by
      rw [List.head?_eq_getElem?, List.getElem?_eq_getElem hpos, bx_get path 0 hpos]
      constructor
      · intro e; injection e with e; rw [e]; rfl
      · intro e; rw [beq_iff_eq] at e; congr 1; exact UInt8.toNat_inj.1 (by show _ = 47; omega)
    simp only [hh] at HF
    clear hh hpn hpe
    cases hf : (bx path 0 == 47)
    · rw [hf] at HF
      simp only [Bool.false_eq_true, if_false] at HF
      cases hab : (bhA && bpath.isEmpty)
      · rw [hab] at HF
        simp only [Bool.false_eq_true, if_false] at HF
        have hfin : ∀ (wr : World) (fr : Value), True := fun _ _ => trivial
        have ad := bs_add (bpath.take (lst bpath 47)) path
        have hlb := lst_le bpath 47
        have zt : (bs (bpath.take (lst bpath 47))).size = lst bpath 47 := by rw [bs_size, List.length_take]; omega
        have hcat : ¬ 9223372036854775807 < lst bpath 47 + path.length := by omega
        rw [← HF.out] at ad
        have hbI : (bpath.length : Int) ≤ 17592186044416 := by omega
        have E3' : bhA = true → (bs bpath).toList.isEmpty = false := fun h => by rw [E3]; rw [h] at hab; simpa using hab
        generalize bx path 0 = y at *
        generalize hL : bpath.take (lst bpath 47) = pt at *
        have HL : Hid (bpath.take (lst bpath 47) = pt) := hL
        generalize hkk : lst bpath 47 = kk at *
        have HK : Hid (lst bpath 47 = kk) := hkk
        clear hkk
        clear hL HF hlb hab E3 hfin hD
        cases bhA
        · clear E3'
          go_wp2_with fail
          go_loopw [6, 7] (fun u t wr => ∃ i : Nat, i ≤ bpath.length ∧ u = .string (bs (bpath.take (lst (bpath.take i) 47))) ∧ t = .int .i64 i ∧ wr = W1) (fun _ t _ => bpath.length - (intOf t).toNat)
          case atStart => exact ⟨0, Nat.zero_le _, by rw [List.take_zero]; rfl, rfl, rfl⟩
          case round =>
            obtain ⟨i, hi, rfl, rfl, rfl⟩ := hrel
            by_cases hlt : i < bpath.length
            · have iI : (i : Int) < (bpath.length : Int) := by omega
              have i0 : (0 : Int) ≤ (i : Int) := by omega
              have i1 : (0 : Int) ≤ (i : Int) + 1 := by omega
              have i2 : (i : Int) + 1 ≤ (bpath.length : Int) := by omega
              have w1 : IntKind.i64.wrap ((i : Int) + 1) = (i : Int) + 1 := by rw [IntKind.wrap_i64]; omega
              have hbx := bx_at (bs bpath) i (by rw [hzb]; exact hlt)
              rw [bs_list] at hbx
              have hlk := lst_take 47 (List.getElem?_eq_getElem hlt)
              have h47 : (bpath[i] == 47) = (bx bpath i == 47) := by rw [bx_get bpath i hlt]; exact (u8_int _ 47).symm
              rw [h47] at hlk
              cases hc : (bx bpath i == 47)
              · rw [hc] at hlk
                simp only [Bool.false_eq_true, if_false] at hlk
                have HN : Hid (bs (bpath.take (lst (bpath.take i) 47)) = bs (bpath.take (lst (bpath.take (i + 1)) 47))) := by show _ = _; rw [hlk]
                generalize bx bpath i = cc at *
                clear hlk h47
                go_wp2
                go_roundw
                case rel => exact ⟨i + 1, by omega, by rw [HN.out], by go_num, trivial⟩
                case measure => simp [intOf]; omega
              · rw [hc] at hlk
                simp only [if_true] at hlk
                have ek : (bs bpath).extract 0 (i + 1) = bs (bpath.take (i + 1)) := ext bpath (i + 1)
                have ek2 : (bs bpath).extract 0 ((i : Int) + 1).toNat = bs (bpath.take (i + 1)) := by rw [show ((i : Int) + 1).toNat = i + 1 by omega]; exact ek
                obtain ⟨bt, hbt⟩ : ∃ bt, bt = bpath.take (i + 1) := ⟨_, rfl⟩
                rw [← hbt] at ek ek2
                have HN : Hid (bt = bpath.take (lst (bpath.take (i + 1)) 47)) := by show _ = _; rw [hlk, hbt]
                generalize bx bpath i = cc at *
                clear hlk h47 hbt
                go_wp2
                go_roundw
                case rel => exact ⟨i + 1, by omega, congrArg (fun x => Value.string (bs x)) HN.out, by go_num, trivial⟩
                case measure => simp [intOf]; omega
            · have iI : ¬ (i : Int) < (bpath.length : Int) := by omega
              have he : bpath.take (lst (bpath.take i) 47) = pt := by rw [show bpath.take i = bpath from List.take_of_length_le (by omega), HK.out]; exact HL.out
              rw [he]
              clear he hlt
              go_wp2_with (go_at_call 21; refine (hDf _).mono ?_; rintro e w' ⟨rfl, rfl⟩)
              try simp only [Exit.inBlock, Exit.then]
              refine bodyPost_ret (by simp [results, Try.results19, go_sem, p0, p1, p2, p3, p4, p5, p6, p7]; try rfl) rfl ?_
              exact ⟨by rw [HR.out]; rfl, by with_reducible repeat (first | exact hb1 | refine bl_s ?_ (by omega) _)⟩
        · have E3 := E3' rfl
          clear E3'
          go_wp2_with fail
          go_loopw [6, 7] (fun u t wr => ∃ i : Nat, i ≤ bpath.length ∧ u = .string (bs (bpath.take (lst (bpath.take i) 47))) ∧ t = .int .i64 i ∧ wr = W1) (fun _ t _ => bpath.length - (intOf t).toNat)
          case atStart => exact ⟨0, Nat.zero_le _, by rw [List.take_zero]; rfl, rfl, rfl⟩
          case round =>
            obtain ⟨i, hi, rfl, rfl, rfl⟩ := hrel
            by_cases hlt : i < bpath.length
            · have iI : (i : Int) < (bpath.length : Int) := by omega
              have i0 : (0 : Int) ≤ (i : Int) := by omega
              have i1 : (0 : Int) ≤ (i : Int) + 1 := by omega
              have i2 : (i : Int) + 1 ≤ (bpath.length : Int) := by omega
              have w1 : IntKind.i64.wrap ((i : Int) + 1) = (i : Int) + 1 := by rw [IntKind.wrap_i64]; omega
              have hbx := bx_at (bs bpath) i (by rw [hzb]; exact hlt)
              rw [bs_list] at hbx
              have hlk := lst_take 47 (List.getElem?_eq_getElem hlt)
              have h47 : (bpath[i] == 47) = (bx bpath i == 47) := by rw [bx_get bpath i hlt]; exact (u8_int _ 47).symm
              rw [h47] at hlk
              cases hc : (bx bpath i == 47)
              · rw [hc] at hlk
                simp only [Bool.false_eq_true, if_false] at hlk
                have HN : Hid (bs (bpath.take (lst (bpath.take i) 47)) = bs (bpath.take (lst (bpath.take (i + 1)) 47))) := by show _ = _; rw [hlk]
                generalize bx bpath i = cc at *
                clear hlk h47
                go_wp2
                go_roundw
                case rel => exact ⟨i + 1, by omega, by rw [HN.out], by go_num, trivial⟩
                case measure => simp [intOf]; omega
              · rw [hc] at hlk
                simp only [if_true] at hlk
                have ek : (bs bpath).extract 0 (i + 1) = bs (bpath.take (i + 1)) := ext bpath (i + 1)
                have ek2 : (bs bpath).extract 0 ((i : Int) + 1).toNat = bs (bpath.take (i + 1)) := by rw [show ((i : Int) + 1).toNat = i + 1 by omega]; exact ek
                obtain ⟨bt, hbt⟩ : ∃ bt, bt = bpath.take (i + 1) := ⟨_, rfl⟩
                rw [← hbt] at ek ek2
                have HN : Hid (bt = bpath.take (lst (bpath.take (i + 1)) 47)) := by show _ = _; rw [hlk, hbt]
                generalize bx bpath i = cc at *
                clear hlk h47 hbt
                go_wp2
                go_roundw
                case rel => exact ⟨i + 1, by omega, congrArg (fun x => Value.string (bs x)) HN.out, by go_num, trivial⟩
                case measure => simp [intOf]; omega
            · have iI : ¬ (i : Int) < (bpath.length : Int) := by omega
              have he : bpath.take (lst (bpath.take i) 47) = pt := by rw [show bpath.take i = bpath from List.take_of_length_le (by omega), HK.out]; exact HL.out
              rw [he]
              clear he hlt
              go_wp2_with (go_at_call 21; refine (hDf _).mono ?_; rintro e w' ⟨rfl, rfl⟩)
              try simp only [Exit.inBlock, Exit.then]
              refine bodyPost_ret (by simp [results, Try.results19, go_sem, p0, p1, p2, p3, p4, p5, p6, p7]; try rfl) rfl ?_
              exact ⟨by rw [HR.out]; rfl, by with_reducible repeat (first | exact hb1 | refine bl_s ?_ (by omega) _)⟩
      · obtain ⟨rfl, hbe⟩ : bhA = true ∧ bpath.isEmpty = true := by simpa using hab
        rw [hbe] at HF E3
        have ad : (ByteArray.mk #[47]) ++ bs path = bs fl := by rw [HF.out]; exact bs_add [47] path
        have hcat : ¬ 9223372036854775807 < 1 + path.length := by omega
        generalize bx path 0 = y at *
        clear HF hab hbe hD
        go_wp2_with (go_at_call 21; refine (hDf _).mono ?_; rintro e w' ⟨rfl, rfl⟩)
        try simp only [Exit.inBlock, Exit.then]
        refine bodyPost_ret (by simp [results, Try.results19, go_sem, p0, p1, p2, p3, p4, p5, p6, p7]; try rfl) rfl ?_
        exact ⟨by rw [HR.out]; rfl, by with_reducible repeat (first | exact hb1 | refine bl_s ?_ (by omega) _)⟩
    · rw [hf] at HF
      have hfl : fl = path := HF.out
      subst hfl
      generalize bx fl 0 = y at *
      clear HF E3 hD
      go_wp2_with (go_at_call 21; refine (hDf _).mono ?_; rintro e w' ⟨rfl, rfl⟩)
      try simp only [Exit.inBlock, Exit.then]
      refine bodyPost_ret (by simp [results, Try.results19, go_sem, p0, p1, p2, p3, p4, p5, p6, p7]; try rfl) rfl ?_
      exact ⟨by rw [HR.out]; rfl, by with_reducible repeat (first | exact hb1 | refine bl_s ?_ (by omega) _)⟩
  · rw [hpe] at HR E2
    clear hDf HF hD E3 hpe
    cases hQ
    · go_wp2_with fail
      have kb2 := kb1.away (a := ⟨w.heap.size + 3, 2, none⟩) (v := .string (bs bpath)) (by simp)
      have kz2 := kz1.away (a := ⟨w.heap.size + 3, 2, none⟩) (v := .string (bs bpath)) (by simp)
      have kt2 := kt1.set 2 (.string (bs bpath)) rfl
      have hb2 : Below w.heap.size w (W1.setCell ⟨w.heap.size + 3, 2, none⟩ (.string (bs bpath))) := bl_s hb1 (by omega) _
      generalize W1.setCell ⟨w.heap.size + 3, 2, none⟩ (.string (bs bpath)) = W2 at *
      clear b0 b1 b2 b3 b4 b5 b6 b7 t0 t1 t2 t3 t4 t5 t6 t7 y0 y1 y2 y3 y4 y5 y6 y7 kb1 ku1 kz1 kt1 hb1 u0 u1 u2 u3 u4 u5 u6 u7 p0 p1 p2 p3 p4 p5 p6 p7 z0 z1 z2 z3 z4 z5 z6 z7
      obtain ⟨b0, b1, b2, b3, b4, b5, b6, b7⟩ := kb2.c8
      obtain ⟨t0, t1, t2, t3, t4, t5, t6, t7⟩ := kt2.c8
      obtain ⟨y0, y1, y2, y3, y4, y5, y6, y7⟩ := kt2.z8
      go_region
      have kz3 : Bk ((W2.setCell ⟨w.heap.size + 3, 3, none⟩ (.string (bs bq))).setCell ⟨w.heap.size + 3, 6, none⟩ (.bool bhQ)).drew (w.heap.size + 2) #[.string ⟨#[]⟩, .string ⟨#[]⟩, .string ⟨#[]⟩, .string ⟨#[]⟩, .string ⟨#[]⟩, .bool false, .bool false, .bool false] := ((kz2.away (by simp)).away (by simp)).dw
      have kt3 := ((kt2.set 3 (.string (bs bq)) rfl).set 6 (.bool bhQ) rfl).dw
      have hb1 : Below w.heap.size w ((W2.setCell ⟨w.heap.size + 3, 3, none⟩ (.string (bs bq))).setCell ⟨w.heap.size + 3, 6, none⟩ (.bool bhQ)).drew := bl_d (bl_s (bl_s hb2 (by omega) _) (by omega) _)
      generalize ((W2.setCell ⟨w.heap.size + 3, 3, none⟩ (.string (bs bq))).setCell ⟨w.heap.size + 3, 6, none⟩ (.bool bhQ)).drew = W3 at *
      clear b0 b1 b2 b3 b4 b5 b6 b7 t0 t1 t2 t3 t4 t5 t6 t7 y0 y1 y2 y3 y4 y5 y6 y7 kb2 kz2 kt2 hb2
      obtain ⟨t0, t1, t2, t3, t4, t5, t6, t7⟩ := kt3.c8
      obtain ⟨p0, p1, p2, p3, p4, p5, p6, p7⟩ := kz3.c8
      obtain ⟨z0, z1, z2, z3, z4, z5, z6, z7⟩ := kz3.z8
      go_wp2
      try simp only [Exit.inBlock, Exit.then]
      refine bodyPost_ret (by simp [results, Try.results19, go_sem, p0, p1, p2, p3, p4, p5, p6, p7]; try rfl) rfl ?_
      exact ⟨by rw [HR.out]; rfl, by with_reducible repeat (first | exact hb1 | refine bl_s ?_ (by omega) _)⟩
    · go_wp2
      try simp only [Exit.inBlock, Exit.then]
      refine bodyPost_ret (by simp [results, Try.results19, go_sem, p0, p1, p2, p3, p4, p5, p6, p7]; try rfl) rfl ?_
      exact ⟨by rw [HR.out]; rfl, by with_reducible repeat (first | exact hb1 | refine bl_s ?_ (by omega) _)⟩
end Go.Proofs.Ytgmigdfkdioalaa
