/-
  What (*uri.resolved).fullPath, (*uri.resolved).settle and uri.Resolve answer. Conditions: at most 2^45 bytes each.
-/
import Derived.Test.YtgmigdfkdioalaaUU12
namespace Go.Proofs.Ytgmigdfkdioalaa
open Go.RowKit
attribute [local go_sem] setCell_drewN alloc_drewN

theorem Bk.c16 {w : World} {b : Nat} {x0 x1 x2 x3 x4 x5 x6 x7 x8 x9 x10 x11 x12 x13 x14 x15 : Value} (h : Bk w b #[x0, x1, x2, x3, x4, x5, x6, x7, x8, x9, x10, x11, x12, x13, x14, x15]) :
    w.cell? ⟨b, 0, none⟩ = some x0 ∧ w.cell? ⟨b, 1, none⟩ = some x1 ∧ w.cell? ⟨b, 2, none⟩ = some x2 ∧ w.cell? ⟨b, 3, none⟩ = some x3 ∧ w.cell? ⟨b, 4, none⟩ = some x4 ∧ w.cell? ⟨b, 5, none⟩ = some x5 ∧ w.cell? ⟨b, 6, none⟩ = some x6 ∧ w.cell? ⟨b, 7, none⟩ = some x7 ∧ w.cell? ⟨b, 8, none⟩ = some x8 ∧ w.cell? ⟨b, 9, none⟩ = some x9 ∧ w.cell? ⟨b, 10, none⟩ = some x10 ∧ w.cell? ⟨b, 11, none⟩ = some x11 ∧ w.cell? ⟨b, 12, none⟩ = some x12 ∧ w.cell? ⟨b, 13, none⟩ = some x13 ∧ w.cell? ⟨b, 14, none⟩ = some x14 ∧ w.cell? ⟨b, 15, none⟩ = some x15 :=
  ⟨h.cell 0, h.cell 1, h.cell 2, h.cell 3, h.cell 4, h.cell 5, h.cell 6, h.cell 7, h.cell 8, h.cell 9, h.cell 10, h.cell 11, h.cell 12, h.cell 13, h.cell 14, h.cell 15⟩
theorem Bk.z16 {w : World} {b : Nat} {cs : Array Value} (h : Bk w b cs) :
    w.frozen? ⟨b, 0, none⟩ = false ∧ w.frozen? ⟨b, 1, none⟩ = false ∧ w.frozen? ⟨b, 2, none⟩ = false ∧ w.frozen? ⟨b, 3, none⟩ = false ∧ w.frozen? ⟨b, 4, none⟩ = false ∧ w.frozen? ⟨b, 5, none⟩ = false ∧ w.frozen? ⟨b, 6, none⟩ = false ∧ w.frozen? ⟨b, 7, none⟩ = false ∧ w.frozen? ⟨b, 8, none⟩ = false ∧ w.frozen? ⟨b, 9, none⟩ = false ∧ w.frozen? ⟨b, 10, none⟩ = false ∧ w.frozen? ⟨b, 11, none⟩ = false ∧ w.frozen? ⟨b, 12, none⟩ = false ∧ w.frozen? ⟨b, 13, none⟩ = false ∧ w.frozen? ⟨b, 14, none⟩ = false ∧ w.frozen? ⟨b, 15, none⟩ = false :=
  ⟨h.frz 0, h.frz 1, h.frz 2, h.frz 3, h.frz 4, h.frz 5, h.frz 6, h.frz 7, h.frz 8, h.frz 9, h.frz 10, h.frz 11, h.frz 12, h.frz 13, h.frz 14, h.frz 15⟩
/-- A path that is not empty, behind what it has of the base's. -/
def fullL (b u : Ur) : List UInt8 := if u.path.head? = some 47 then u.path else if b.hA && b.path.isEmpty then 47 :: u.path else b.path.take (lst b.path 47) ++ u.path
/-- What a reference comes to at a base. -/
def resolveL (b u : Ur) : Ur :=
  if !u.sch.isEmpty then { u with path := dotsL u.path }
  else if u.hA then { u with sch := b.sch, path := dotsL u.path }
  else if !u.path.isEmpty then { u with sch := b.sch, auth := b.auth, hA := b.hA, path := dotsL (fullL b u) }
  else if !u.hQ then { u with sch := b.sch, auth := b.auth, hA := b.hA, path := b.path, q := b.q, hQ := b.hQ }
  else { u with sch := b.sch, auth := b.auth, hA := b.hA, path := b.path }
def rc (u b : Ur) : Array Value := #[.string (bs u.sch), .string (bs u.auth), .string (bs u.path), .string (bs u.q), .string (bs u.frag), .bool u.hA, .bool u.hQ, .bool u.hF, .string (bs b.sch), .string (bs b.auth), .string (bs b.path), .string (bs b.q), .string (bs b.frag), .bool b.hA, .bool b.hQ, .bool b.hF]
theorem bs_add (a b : List UInt8) : bs a ++ bs b = bs (a ++ b) := by
  apply ByteArray.ext
  apply Array.ext'
  simp [bs]

set_option maxRecDepth 100000 in
set_option maxHeartbeats 1600000 in
theorem fullPath_any (b u : Ur) (bl : Nat) (w : World) (hk : Bk w bl (rc u b)) (hp : u.path ≠ []) (hs : b.path.length ≤ 35184372088832) (hs2 : u.path.length ≤ 35184372088832) :
    Calls Try.prog 51 #[.pointer (some ⟨bl, 0, none⟩)] w fun e w' => e = .returned (.string (bs (fullL b u))) ∧ ∃ n, w' = w.drewN n := by
  obtain ⟨sch, auth, path, q, frag, hA, hQ, hF⟩ := u
  obtain ⟨bsch, bauth, bpath, bq, bfrag, bhA, bhQ, bhF⟩ := b
  simp only [rc] at hk
  simp only at hp hs hs2
  obtain ⟨c0, c1, c2, c3, c4, c5, c6, c7, d0, d1, d2, d3, d4, d5, d6, d7⟩ := hk.c16
  clear hk
  have hz := bs_size path
  have hpos : 0 < path.length := List.length_pos_iff.2 hp
  have hI : (0 : Int) < (path.length : Int) := by omega
  have hx := bx_at (bs path) 0 (by rw [hz]; exact hpos)
  rw [bs_list] at hx
  have hh : (path.head? = some 47) ↔ (bx path 0 == 47) = true := by
    rw [List.head?_eq_getElem?, List.getElem?_eq_getElem hpos, bx_get path 0 hpos]
    constructor
    · intro e; injection e with e; rw [e]; rfl
    · intro e; rw [beq_iff_eq] at e; congr 1; exact UInt8.toNat_inj.1 (by show _ = 47; omega)
  have HF : Hid (fullL ⟨bsch, bauth, bpath, bq, bfrag, bhA, bhQ, bhF⟩ ⟨sch, auth, path, q, frag, hA, hQ, hF⟩ = if (bx path 0 == 47) = true then path else if bhA && bpath.isEmpty then 47 :: path else bpath.take (lst bpath 47) ++ path) := by
    show _ = _
    unfold fullL
    simp only [hh]
  have hE := emp_bs bpath
  generalize bpath.isEmpty = be at *
  clear hh hp
  cases hf : (bx path 0 == 47)
  · have key : (bhA && be) = false → Calls Try.prog 51 #[.pointer (some ⟨bl, 0, none⟩)] w fun e w' => e = .returned (.string (bs (fullL ⟨bsch, bauth, bpath, bq, bfrag, bhA, bhQ, bhF⟩ ⟨sch, auth, path, q, frag, hA, hQ, hF⟩))) ∧ ∃ n, w' = w.drewN n := by
      intro hab
      rw [hf, hab] at HF
      have hL := fun w' => lastIndexByte_any (bs bpath) 47 w' (by rw [bs_size]; omega)
      simp only [bs_list] at hL
      have hle := lst_le bpath 47
      have hz2 := bs_size bpath
      have ev : (((47 : UInt8).toNat : Int)) = 47 := rfl
      simp only [ev] at hL
      have tk : (bs bpath).extract 0 (lst bpath 47) = bs (bpath.take (lst bpath 47)) := by rw [piece_bs, List.drop_zero, Nat.sub_zero, bs_list]
      have ad := bs_add (bpath.take (lst bpath 47)) path
      obtain ⟨k, hkk⟩ : ∃ k, k = lst bpath 47 := ⟨_, rfl⟩
      simp only [← hkk] at hL hle tk ad HF
      have n0 : (0 : Int) ≤ (k : Int) := by omega
      have n1 : (k : Int) ≤ (bpath.length : Int) := by omega
      obtain ⟨z, hzz⟩ : ∃ z : Int, z = (k : Int) - 1 := ⟨_, rfl⟩
      have n3 : IntKind.i64.wrap (z + 1) = (k : Int) := by rw [IntKind.wrap_i64]; omega
      simp only [← hzz] at hL
      have hz3 : (bs (bpath.take k)).size = k := by rw [bs_size, List.length_take]; omega
      have hcat : ¬ 9223372036854775807 < k + path.length := by omega
      clear hzz hkk hle
      generalize bx path 0 = y at *
      cases bhA
      · go_enter Try.func51, Try.ntmps51
        go_wp2_with fail
        go_quiet ((go_at_call 65; exact Calls.quiet_of_same (hL _)))
        all_goals go_wp2
        all_goals go_ret
        all_goals exact ⟨r_str (by rw [HF.out]; rfl), _, rfl⟩
      · obtain rfl : be = false := by simpa using hab
        clear hab
        go_enter Try.func51, Try.ntmps51
        go_wp2_with fail
        go_quiet ((go_at_call 65; exact Calls.quiet_of_same (hL _)))
        all_goals go_wp2
        all_goals go_ret
        all_goals exact ⟨r_str (by rw [HF.out]; rfl), _, rfl⟩
    cases hab : (bhA && be)
    · exact key hab
    · obtain ⟨rfl, rfl⟩ : bhA = true ∧ be = true := by simpa using hab
      clear key hab
      rw [hf] at HF
      have ad := bs_add [47] path
      have hcat : ¬ 9223372036854775807 < 1 + path.length := by omega
      have ad' : (ByteArray.mk #[47]) ++ bs path = bs (47 :: path) := ad
      generalize bx path 0 = y at *
      go_enter Try.func51, Try.ntmps51
      go_wp2
      go_ret
      exact ⟨r_str (by rw [HF.out]; rfl), 0, rfl⟩
  · rw [hf] at HF
    generalize bx path 0 = y at *
    go_enter Try.func51, Try.ntmps51
    go_wp2
    go_ret
    exact ⟨r_str (by rw [HF.out]; rfl), 0, rfl⟩
end Go.Proofs.Ytgmigdfkdioalaa
