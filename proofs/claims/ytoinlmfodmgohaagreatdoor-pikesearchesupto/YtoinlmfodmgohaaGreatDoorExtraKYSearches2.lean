/-
  The document's counting, and what follows. Conditions: there is room.
  The document's: what follows at the next place. Conditions: there is room.
  What the reference's Merge answers: the set of ranges. Conditions: at most 2^30 ranges.
  Which rows of states may be, by the document's answer. Conditions: no row of ranges is longer than 2^30.
-/
import Derived.Test.YtoinlmfodmgohaaGreatDoorExtraKYSearches0
import Derived.Test.YtoinlmfodmgohaaGreatDoorJoined27
import Derived.Test.YtoinlmfodmgohaaGreatDoorJoined9
import Derived.Test.YtoinlmfodmgohaaGreatDoorJoined16
import Derived.Test.YtoinlmfodmgohaaGreatDoorJoined26
namespace Go.Proofs.YtoinlmfodmgohaaGreatDoor
open Go.RowKit Go.Maps
attribute [local go_sem] setCell_drewN alloc_drewN

/-- Those that are marked, in order. -/
def idx (H : List Int) (n : Nat) : List Int := ((List.range n).filter fun x : Nat => decide ((x : Int) ∈ H)).map fun x : Nat => (x : Int)
theorem idx_succ (H : List Int) (i : Nat) : idx H (i + 1) = if (i : Int) ∈ H then idx H i ++ [(i : Int)] else idx H i := by
  unfold idx
  rw [List.range_succ, List.filter_append, List.map_append]
  by_cases h : (i : Int) ∈ H
  · rw [if_pos h]; simp [h]
  · rw [if_neg h]; simp [h]
theorem mem_idx (H : List Int) (n : Nat) (hin : ∀ x ∈ H, 0 ≤ x ∧ x < (n : Int)) (x : Int) : x ∈ idx H n ↔ x ∈ H := by
  unfold idx
  rw [List.mem_map]
  constructor
  · rintro ⟨y, hy, rfl⟩
    rw [List.mem_filter] at hy
    exact of_decide_eq_true hy.2
  · intro hx
    have := hin x hx
    refine ⟨x.toNat, List.mem_filter.2 ⟨List.mem_range.2 (by omega), decide_eq_true ?_⟩, by omega⟩
    rw [show ((x.toNat : Nat) : Int) = x by omega]
    exact hx
theorem idx_nodup (H : List Int) : ∀ n, (idx H n).Nodup
  | 0 => by simp [idx]
  | n + 1 => by
    rw [idx_succ]
    by_cases h : (n : Int) ∈ H
    · rw [if_pos h, List.nodup_append]
      refine ⟨idx_nodup H n, by simp, fun a ha b hb e => ?_⟩
      simp at hb
      subst hb e
      unfold idx at ha
      rw [List.mem_map] at ha
      obtain ⟨y, hy, he⟩ := ha
      rw [List.mem_filter, List.mem_range] at hy
      omega
    · rw [if_neg h]; exact idx_nodup H n
theorem idx_len (H : List Int) (n : Nat) (hn : H.Nodup) (hin : ∀ x ∈ H, 0 ≤ x ∧ x < (n : Int)) : (idx H n).length = H.length := by
  have a := sub_len (idx H n) H (idx_nodup H n) (fun x hx => (mem_idx H n hin x).1 hx)
  have b := sub_len H (idx H n) hn (fun x hx => (mem_idx H n hin x).2 hx)
  omega
theorem idx_le (H : List Int) (n : Nat) : (idx H n).length ≤ n := by
  unfold idx
  rw [List.length_map]
  exact Nat.le_trans (List.length_filter_le _ _) (by simp)
theorem dn_idx (L : List ST) (H : List Int) (n : Nat) (hin : ∀ x ∈ H, 0 ≤ x ∧ x < (n : Int)) : dnB L (idx H n) = dnB L H := by
  unfold dnB
  rw [Bool.eq_iff_iff, List.any_eq_true, List.any_eq_true]
  exact ⟨fun ⟨x, h1, h2⟩ => ⟨x, (mem_idx H n hin x).1 h1, h2⟩, fun ⟨x, h1, h2⟩ => ⟨x, (mem_idx H n hin x).2 h1, h2⟩⟩
theorem dn_succ (L : List ST) (H : List Int) (i : Nat) : dnB L (idx H (i + 1)) = (dnB L (idx H i) || (decide ((i : Int) ∈ H) && isD L (i : Int))) := by
  rw [idx_succ]
  by_cases h : (i : Int) ∈ H
  · rw [if_pos h]; unfold dnB; rw [List.any_append]; simp [h]
  · rw [if_neg h]; simp [h]
theorem sx_nat (L : List ST) (i : Nat) : sx L (i : Int) = sa L i := by unfold sx; rw [Int.toNat_natCast]
set_option maxRecDepth 100000 in
set_option maxHeartbeats 3200000 in
theorem rdone_any (L : List ST) (hlL : L.length ≤ 1048576) (H : List Int) (lv mv : Value) (w : World) (X Y : Nat → Prop) (hS : SI w X L lv) (hM : II w Y (mkL H L.length) mv) :
    Calls Tryz.prog 39 #[lv, mv] w fun e w' => e = .returned (.tuple #[.int .i64 (((idx H L.length).length : Nat) : Int), .bool (dnB L (idx H L.length))]) ∧ w' = w := by
  obtain ⟨P, hP⟩ : ∃ P : Ending → World → Prop, P = fun e w' => e = .returned (.tuple #[.int .i64 (((idx H L.length).length : Nat) : Int), .bool (dnB L (idx H L.length))]) ∧ w' = w := ⟨_, rfl⟩
  rw [← hP]
  have HP := hid_intro hP
  obtain ⟨la, lc, rfl⟩ : ∃ la lc, lv = .slice la L.length lc := by obtain ⟨la, lc, rfl, _⟩ := hS; exact ⟨la, lc, rfl⟩
  obtain ⟨ma, mc, rfl⟩ : ∃ ma mc, mv = .slice ma L.length mc := by obtain ⟨ma, mc, rfl, _⟩ := hM; rw [mkL_len]; exact ⟨ma, mc, rfl⟩
  have hlI : (L.length : Int) ≤ 1048576 := by omega
  have HAT : Hid (∀ i, i < L.length → ∃ b off b' off', la = some ⟨b, off, none⟩ ∧ ma = some ⟨b', off', none⟩ ∧ w.cell? ⟨b, off + i * 4, none⟩ = some (.int .i64 (sx L (i : Int)).k) ∧ w.cell? ⟨b', off' + i, none⟩ = some (.int .i64 (if (i : Int) ∈ H then (1 : Int) else 0))) := hid_intro (fun i hi => by
    obtain ⟨b, off, capl, rv, hlv, _, _, _, _, ⟨g0, _⟩, _⟩ := hS.cells (s := (i : Int)) ⟨by omega, by omega⟩
    obtain ⟨b', off', c', e, h1⟩ := hM.at (i := i) (by rw [mkL_len]; exact hi)
    injection hlv with hlv _ _
    injection e with e _ _
    rw [Int.toNat_natCast] at g0
    rw [mkL_at H L.length i hi] at h1
    exact ⟨b, off, b', off', hlv, e, g0, h1⟩)
  clear hP hS hM hlL
  go_enter Tryz.func39, Tryz.ntmps39
  go_wp2_with fail
  go_loopg [6, 7, 8] L.length (fun mm s6 s7 s8 wr => ∃ (i n : Nat) (b : Bool), s8 = .int .i64 (i : Int) ∧ s6 = .int .i64 (n : Int) ∧ s7 = .bool b ∧ mm = L.length - i ∧ wr = w ∧ Hid (i ≤ L.length ∧ n = (idx H i).length ∧ b = dnB L (idx H i)))
  case atStart => exact ⟨0, 0, false, rfl, rfl, rfl, by omega, rfl, Nat.zero_le _, rfl, rfl⟩
  case round =>
    obtain ⟨i, n, b, rfl, rfl, rfl, rfl, rfl, HI⟩ := hrel
    by_cases hlt : (i : Int) < (L.length : Int)
    · have hi : i < L.length := by omega
      obtain ⟨b1, o1, b2, o2, h1, h2, c0, c1⟩ := HAT.out i hi
      subst h1 h2
      have hnI : (n : Int) ≤ 1048576 := by have := idx_le H i; have := HI.out.2.1; omega
      have HLT := hid_intro hi
      have HSN := hid_intro (idx_succ H i)
      have HDS := hid_intro (dn_succ L H i)
      by_cases hin : (i : Int) ∈ H
      · rw [if_pos hin] at c1 HSN
        rw [decide_eq_true hin, Bool.true_and] at HDS
        clear hi
        cases b
        · by_cases hk : (sx L (i : Int)).k = 7
          · have HD : Hid (isD L (i : Int) = true) := hid_intro (decide_eq_true hk)
            go_wp2_with fail
            go_roundg (L.length - (i + 1))
            case measure => have := HLT.out; omega
            case rel => exact ⟨i + 1, n + 1, true, by simp, by simp, by simp, rfl, rfl, HLT.out, by rw [HSN.out, HI.out.2.1]; simp, by rw [HDS.out, HD.out]; simp⟩
          · have HD : Hid (isD L (i : Int) = false) := hid_intro (decide_eq_false hk)
            go_wp2_with fail
            go_roundg (L.length - (i + 1))
            case measure => have := HLT.out; omega
            case rel => exact ⟨i + 1, n + 1, false, by simp, by simp, by simp [hk], rfl, rfl, HLT.out, by rw [HSN.out, HI.out.2.1]; simp, by rw [HDS.out, HD.out, ← HI.out.2.2]; rfl⟩
        · go_wp2_with fail
          go_roundg (L.length - (i + 1))
          case measure => have := HLT.out; omega
          case rel => exact ⟨i + 1, n + 1, true, by simp, by simp, rfl, rfl, rfl, HLT.out, by rw [HSN.out, HI.out.2.1]; simp, by rw [HDS.out, ← HI.out.2.2]; rfl⟩
      · rw [if_neg hin] at c1 HSN
        rw [decide_eq_false hin, Bool.false_and, Bool.or_false] at HDS
        clear hi
        cases b
        · go_wp2_with fail
          go_roundg (L.length - (i + 1))
          case measure => have := HLT.out; omega
          case rel => exact ⟨i + 1, n, false, by simp, by simp, by simp, rfl, rfl, HLT.out, by rw [HSN.out]; exact HI.out.2.1, by rw [HDS.out]; exact HI.out.2.2⟩
        · go_wp2_with fail
          go_roundg (L.length - (i + 1))
          case measure => have := HLT.out; omega
          case rel => exact ⟨i + 1, n, true, by simp, by simp, rfl, rfl, rfl, HLT.out, by rw [HSN.out]; exact HI.out.2.1, by rw [HDS.out]; exact HI.out.2.2⟩
    · have hie : i = L.length := by have := HI.out.1; omega
      subst hie
      go_wp2_with fail
      rw [HP.out]
      exact ⟨by rw [← HI.out.2.1, ← HI.out.2.2], rfl⟩
end Go.Proofs.YtoinlmfodmgohaaGreatDoor

namespace Go.Proofs.YtoinlmfodmgohaaGreatDoor
open Go.RowKit Go.Maps
attribute [local go_sem] setCell_drewN alloc_drewN

def inRp (p : Int) (q : Int × Int) : Bool := decide (q.1 ≤ p ∧ p ≤ q.2)
theorem takeP_any (m : List (Int × Int)) (p : Int) {k : Nat} (hk : k < m.length) : (m.take (k + 1)).any (inRp p) = ((m.take k).any (inRp p) || decide ((ra m k).1 ≤ p ∧ p ≤ (ra m k).2)) := by
  unfold ra
  rw [List.take_add_one, List.getElem?_eq_getElem hk, List.any_append, List.getD_eq_getElem?_getD, List.getElem?_eq_getElem hk]
  simp [inRp]
/-- A set has a number in one range at most. -/
theorem once {m : List (Int × Int)} (h : ∀ i, i < m.length → rgAt m i) {p : Int} {k : Nat} (hk : k < m.length) (hc : (ra m k).1 ≤ p ∧ p ≤ (ra m k).2) : (m.take k).any (inRp p) = false := by
  rw [List.any_eq_false]
  intro q hq
  obtain ⟨j, hj, rfl⟩ := List.getElem_of_mem hq
  rw [List.length_take] at hj
  have e : (m.take k)[j] = ra m j := by
    rw [List.getElem_take]
    unfold ra
    rw [List.getD_eq_getElem?_getD, List.getElem?_eq_getElem (by omega)]; rfl
  rw [e]
  have := rg_lt h k j (by omega) hk
  unfold inRp
  simp
  omega
def fin1 (b : Bool) (a : Int) : List Int := if b = true then [a] else []
theorem nxt_idx (L : List ST) (p : Int) (H : List Int) (i : Nat) : nxt L p (idx H (i + 1)) = nxt L p (idx H i) ++ fin1 (decide ((i : Int) ∈ H) && goB L p (i : Int)) (sx L (i : Int)).a := by
  rw [idx_succ]
  by_cases h : (i : Int) ∈ H
  · rw [if_pos h, decide_eq_true h, Bool.true_and]
    unfold nxt fin1
    rw [List.filter_append, List.map_append]
    by_cases g : goB L p (i : Int) = true
    · rw [if_pos g]; simp [g]
    · rw [if_neg g]; simp [g]
  · rw [if_neg h, decide_eq_false h, Bool.false_and]
    simp [fin1]
set_option maxRecDepth 100000 in
set_option maxHeartbeats 3200000 in
theorem rfollow_any (L : List ST) (hlL : L.length ≤ 1048576) (hRS : RS L) (H : List Int) (p : Int) (lv mv : Value) (w : World) (X Y : Nat → Prop) (hS : SI w X L lv) (hM : II w Y (mkL H L.length) mv) :
    Calls Tryz.prog 40 #[lv, mv, .int .i64 p] w fun e w' => ∃ v, e = .returned v ∧ OwnI w' w.heap.size v (nxt L p (idx H L.length)) ∧ (nxt L p (idx H L.length) = [] → v = .slice none 0 0) ∧ Below w.heap.size w w' := by
  obtain ⟨P, hP⟩ : ∃ P : Ending → World → Prop, P = fun e w' => ∃ v, e = .returned v ∧ OwnI w' w.heap.size v (nxt L p (idx H L.length)) ∧ (nxt L p (idx H L.length) = [] → v = .slice none 0 0) ∧ Below w.heap.size w w' := ⟨_, rfl⟩
  rw [← hP]
  have HP := hid_intro hP
  obtain ⟨la, lc, rfl⟩ : ∃ la lc, lv = .slice la L.length lc := by obtain ⟨la, lc, rfl, _⟩ := hS; exact ⟨la, lc, rfl⟩
  obtain ⟨ma, mc, rfl⟩ : ∃ ma mc, mv = .slice ma L.length mc := by obtain ⟨ma, mc, rfl, _⟩ := hM; rw [mkL_len]; exact ⟨ma, mc, rfl⟩
  have hlI : (L.length : Int) ≤ 1048576 := by omega
  have HAT : Hid (∀ w' i, Below w.heap.size w w' → i < L.length → ∃ b off b' off' rao rcc, la = some ⟨b, off, none⟩ ∧ ma = some ⟨b', off', none⟩ ∧ w'.cell? ⟨b, off + i * 4, none⟩ = some (.int .i64 (sx L (i : Int)).k) ∧ w'.cell? ⟨b, off + i * 4 + 1, none⟩ = some (.slice rao (sx L (i : Int)).r.length rcc) ∧ w'.cell? ⟨b, off + i * 4 + 2, none⟩ = some (.int .i64 (sx L (i : Int)).a) ∧ RI w' X (sx L (i : Int)).r (.slice rao (sx L (i : Int)).r.length rcc) ∧ w'.cell? ⟨b', off' + i, none⟩ = some (.int .i64 (if (i : Int) ∈ H then (1 : Int) else 0))) := hid_intro (fun w' i hb hi => by
    obtain ⟨b, off, capl, rv, hlv, _, _, _, _, ⟨g0, g1, g2, _⟩, hri⟩ := (hS.kept hb).cells (s := (i : Int)) ⟨by omega, by omega⟩
    obtain ⟨b', off', c', e, h1⟩ := (hM.kept hb).at (i := i) (by rw [mkL_len]; exact hi)
    injection hlv with hlv _ _
    injection e with e _ _
    rw [Int.toNat_natCast] at g0 g1 g2
    rw [mkL_at H L.length i hi] at h1
    obtain ⟨rao, rcc, hrv, _⟩ := id hri
    subst hrv
    exact ⟨b, off, b', off', rao, rcc, hlv, e, g0, g1, g2, hri, h1⟩)
  have HRS := hid_intro hRS
  have HLL := hid_intro hlL
  clear hP hS hM hlL hRS
  go_enter Tryz.func40, Tryz.ntmps40
  go_wp2_with fail
  go_loopg [7, 8] L.length (fun mm s7 s8 wr => ∃ (i : Nat) (v : Value), s8 = .int .i64 (i : Int) ∧ s7 = v ∧ mm = L.length - i ∧ Hid (i ≤ L.length ∧ OwnI wr w.heap.size v (nxt L p (idx H i)) ∧ (nxt L p (idx H i) = [] → v = .slice none 0 0) ∧ Below w.heap.size w wr))
  case atStart => exact ⟨0, _, rfl, rfl, by omega, Nat.zero_le _, OwnI.nil _ _, fun _ => rfl, Below.refl _ _⟩
  case round =>
    obtain ⟨i, v, rfl, rfl, rfl, HI⟩ := hrel
    obtain ⟨vo, vc, hvf, _⟩ := HI.out.2.1.form
    by_cases hlt : (i : Int) < (L.length : Int)
    · have hi : i < L.length := by omega
      obtain ⟨b, off, b', off', rao, rcc, h1, h2, g0, g1, g2, hri, c1⟩ := HAT.out wr i HI.out.2.2.2 hi
      subst h1 h2
      have HLT := hid_intro hi
      have HSN := hid_intro (nxt_idx L p H i)
      by_cases hin : (i : Int) ∈ H
      · rw [if_pos hin] at c1
        rw [decide_eq_true hin, Bool.true_and] at HSN
        by_cases hk : (sx L (i : Int)).k = 1
        · have HGO : Hid (goB L p (i : Int) = hasB (sx L (i : Int)).r p) := hid_intro (by unfold goB; rw [decide_eq_true hk, Bool.true_and])
          have hrs := HRS.out (sx L (i : Int)) (by rw [sx_nat]; exact sa_mem hi)
          have hrl : ((sx L (i : Int)).r.length : Int) ≤ 1048576 := by have := hrs.2.1; omega
          have HRR := hid_intro hrs
          clear hi hvf hri hrs
          go_wp2_with fail
          go_loopg [7, 9] (sx L (i : Int)).r.length (fun mm s7 s9 wr => ∃ (k : Nat) (v : Value), s9 = .int .i64 (k : Int) ∧ s7 = v ∧ mm = (sx L (i : Int)).r.length - k ∧ Hid (k ≤ (sx L (i : Int)).r.length ∧ OwnI wr w.heap.size v (nxt L p (idx H i) ++ fin1 (((sx L (i : Int)).r.take k).any (inRp p)) (sx L (i : Int)).a) ∧ (nxt L p (idx H i) ++ fin1 (((sx L (i : Int)).r.take k).any (inRp p)) (sx L (i : Int)).a = [] → v = .slice none 0 0) ∧ Below w.heap.size w wr))
          case atStart => exact ⟨0, _, rfl, rfl, by omega, Nat.zero_le _, by simpa [fin1] using HI.out.2.1, by simpa [fin1] using HI.out.2.2.1, HI.out.2.2.2⟩
          case round =>
            obtain ⟨k, vk, rfl, rfl, rfl, HK⟩ := hrel
            obtain ⟨vo', vc', hvf', _⟩ := HK.out.2.1.form
            obtain ⟨b3, off3, b4, off4, rao3, rcc3, h1, h2, g0', g1', g2', hri', _⟩ := HAT.out wr i HK.out.2.2.2 HLT.out
            injection h1 with h1
            injection h1 with h1a h1b _
            subst h1a h1b
            clear h2
            by_cases hkl : (k : Int) < ((sx L (i : Int)).r.length : Int)
            · have hkn : k < (sx L (i : Int)).r.length := by omega
              obtain ⟨br, or', cr, er, e0, e1⟩ := hri'.at hkn
              injection er with er1 _ er3
              subst er1 er3
              have HKN := hid_intro hkn
              have HTK := hid_intro (takeP_any (sx L (i : Int)).r p hkn)
              clear hri'
              by_cases q1 : p ≥ (ra (sx L (i : Int)).r k).1
              · by_cases q2 : p ≤ (ra (sx L (i : Int)).r k).2
                · have hon := once HRR.out.2.2 hkn ⟨q1, q2⟩
                  have HON := hid_intro hon
                  have HD : Hid (((sx L (i : Int)).r.take (k + 1)).any (inRp p) = true) := hid_intro (by rw [HTK.out, decide_eq_true ⟨q1, q2⟩, Bool.or_true])
                  have HO := hid_intro (show OwnI wr w.heap.size u7 (nxt L p (idx H i)) by have := HK.out.2.1; rw [hon] at this; simpa [fin1] using this)
                  have HSZ := hid_intro HK.out.2.2.2.size
                  have HLN := hid_intro (show (nxt L p (idx H i)).length ≤ 1099511627776 by have := nxt_len L p (idx H i); have := idx_le H i; have := HLT.out; have := HLL.out; omega)
                  have HOK := hid_intro HRR.out.1
                  clear hon hkn hvf'
                  go_wp2_with (at_builtin; refine wpList_append_i rfl _ _ rfl w.heap.size _ (nxt L p (idx H i)) rfl HO.out HSZ.out HLN.out (sx L (i : Int)).a HOK.out.2.1 _ rfl rfl ?_; intro g5 cap5 w5 ho5 hg5 hloc5; have HO5 := hid_intro ho5; have HG5 := hid_intro hg5; clear ho5 hg5 hloc5)
                  go_roundg ((sx L (i : Int)).r.length - (k + 1))
                  case measure => have := HKN.out; omega
                  case rel =>
                    refine ⟨k + 1, _, by simp, rfl, rfl, HKN.out, ?_, ?_, ?_⟩
                    · rw [HD.out]; exact HO5.out
                    · intro e; rw [HD.out] at e; simp [fin1] at e
                    · refine Below.grown (HK.out.2.2.2.alloc HSZ.out _) HG5.out (Nat.le_trans HSZ.out (by simp)) ?_
                      intro kk ek
                      exact (HO.out.lt ek).1
                · have HD : Hid (((sx L (i : Int)).r.take (k + 1)).any (inRp p) = ((sx L (i : Int)).r.take k).any (inRp p)) := hid_intro (by rw [HTK.out, decide_eq_false (fun h => q2 h.2), Bool.or_false])
                  clear hkn hvf'
                  go_wp2_with fail
                  go_roundg ((sx L (i : Int)).r.length - (k + 1))
                  case measure => have := HKN.out; omega
                  case rel => exact ⟨k + 1, _, by simp, rfl, rfl, HKN.out, by rw [HD.out]; exact HK.out.2.1, by rw [HD.out]; exact HK.out.2.2.1, HK.out.2.2.2⟩
              · have HD : Hid (((sx L (i : Int)).r.take (k + 1)).any (inRp p) = ((sx L (i : Int)).r.take k).any (inRp p)) := hid_intro (by rw [HTK.out, decide_eq_false (fun h => q1 h.1), Bool.or_false])
                clear hkn hvf'
                go_wp2_with fail
                go_roundg ((sx L (i : Int)).r.length - (k + 1))
                case measure => have := HKN.out; omega
                case rel => exact ⟨k + 1, _, by simp, rfl, rfl, HKN.out, by rw [HD.out]; exact HK.out.2.1, by rw [HD.out]; exact HK.out.2.2.1, HK.out.2.2.2⟩
            · have hke : k = (sx L (i : Int)).r.length := by have := HK.out.1; omega
              have HE : Hid (nxt L p (idx H i) ++ fin1 (((sx L (i : Int)).r.take k).any (inRp p)) (sx L (i : Int)).a = nxt L p (idx H (i + 1))) := hid_intro (by rw [HSN.out, HGO.out, hke, List.take_length]; rfl)
              clear hri' hvf'
              go_wp2_with fail
              go_roundg (L.length - (i + 1))
              case measure => have := HLT.out; omega
              case rel => exact ⟨i + 1, _, by simp, rfl, rfl, HLT.out, by rw [← HE.out]; exact HK.out.2.1, by rw [← HE.out]; exact HK.out.2.2.1, HK.out.2.2.2⟩
        · have HE : Hid (nxt L p (idx H (i + 1)) = nxt L p (idx H i)) := hid_intro (by rw [HSN.out]; unfold goB; rw [decide_eq_false hk, Bool.false_and]; simp [fin1])
          clear hi hvf hri
          go_wp2_with fail
          go_roundg (L.length - (i + 1))
          case measure => have := HLT.out; omega
          case rel => exact ⟨i + 1, _, by simp, rfl, rfl, HLT.out, by rw [HE.out]; exact HI.out.2.1, by rw [HE.out]; exact HI.out.2.2.1, HI.out.2.2.2⟩
      · rw [if_neg hin] at c1
        have HE : Hid (nxt L p (idx H (i + 1)) = nxt L p (idx H i)) := hid_intro (by rw [HSN.out, decide_eq_false hin, Bool.false_and]; simp [fin1])
        clear hi hvf hri
        go_wp2_with fail
        go_roundg (L.length - (i + 1))
        case measure => have := HLT.out; omega
        case rel => exact ⟨i + 1, _, by simp, rfl, rfl, HLT.out, by rw [HE.out]; exact HI.out.2.1, by rw [HE.out]; exact HI.out.2.2.1, HI.out.2.2.2⟩
    · have hie : i = L.length := by have := HI.out.1; omega
      subst hie
      subst hvf
      go_wp2_with fail
      rw [HP.out]
      exact ⟨_, rfl, HI.out.2.1, HI.out.2.2.1, HI.out.2.2.2⟩
end Go.Proofs.YtoinlmfodmgohaaGreatDoor

namespace Go.Proofs.YtoinlmfodmgohaaGreatDoor
open Go.RowKit
attribute [local go_sem] setCell_drewN alloc_drewN

theorem Bk.grownT {w w' : World} {b : Nat} {cs : Array Value} {o : Option Nat} (h : Bk w b cs) (g : w.grownBy w' o) (ho : o ≠ some b) : Bk w' b cs := by
  have hl := h.lt
  obtain ⟨T, h⟩ := h
  exact ⟨T, by rw [g.block b hl (fun e => ho e.symm)]; exact h⟩
theorem merge_take (l : List (Int × Int)) (i : Nat) (h : i < l.length) : mergeL (l.take (i + 1)) = mergeS (mergeL (l.take i)) (ra l i) := by
  unfold mergeL
  rw [List.take_succ_eq_append_getElem h, List.foldl_append, ra_get h]
  rfl
theorem merge_put (out : List (Int × Int)) {x y A C : Int} (hA : max x 0 = A) (hC : min y 1114111 = C) : mergeS out (x, y) = if C < A then out else putR out (A, C) := by subst hA hC; rfl
theorem step_first {nx : List (Int × Int)} {pb : Bool} {xa xb p q : Int} (h : q + 1 < xa) : stepM (nx, pb, (xa, xb)) (p, q) = (nx ++ [(p, q)], pb, (xa, xb)) := by unfold stepM; exact if_pos h
theorem step_false {nx : List (Int × Int)} {xa xb p q : Int} (h : ¬ q + 1 < xa) (h2 : xb + 1 < p) : stepM (nx, false, (xa, xb)) (p, q) = (nx ++ [(xa, xb)] ++ [(p, q)], true, (xa, xb)) := by
  unfold stepM; rw [if_neg h, if_pos h2, List.append_assoc]; rfl
theorem step_put {nx : List (Int × Int)} {xa xb p q : Int} (h : ¬ q + 1 < xa) (h2 : xb + 1 < p) : stepM (nx, true, (xa, xb)) (p, q) = (nx ++ [(p, q)], true, (xa, xb)) := by
  unfold stepM; rw [if_neg h, if_pos h2]; rfl
theorem step_join {nx : List (Int × Int)} {pb : Bool} {xa xb p q : Int} (h : ¬ q + 1 < xa) (h2 : ¬ xb + 1 < p) : stepM (nx, pb, (xa, xb)) (p, q) = (nx, pb, (min xa p, max xb q)) := by
  unfold stepM; rw [if_neg h, if_neg h2]
set_option maxRecDepth 100000 in
set_option maxHeartbeats 6400000 in
theorem refMerge_any (l : List (Int × Int)) (v : Value) (w : World) (X : Nat → Prop) (hR : RI w X l v) (hl : l.length ≤ 1073741824) :
    Calls Tryz.prog 97 #[v] w fun r w' => ∃ v', r = .returned v' ∧ RI w' (fun _ => False) (mergeL l) v' ∧ Below w.heap.size w w' := by
  obtain ⟨ao, cap, rfl, hc, hcm, hwf, hlie⟩ := hR
  have hlI : (l.length : Int) ≤ 1073741824 := by omega
  go_enter Tryz.func97, Tryz.ntmps97
  go_wp2_with fail
  go_loopg [3, 4] l.length (fun m s3 s4 wr => ∃ i : Nat, i ≤ l.length ∧ m = l.length - i ∧ s4 = .int .i64 (i : Int) ∧ RI wr (fun _ => False) (mergeL (l.take i)) s3 ∧ Below w.heap.size w wr)
  case atStart => exact ⟨0, Nat.zero_le _, rfl, rfl, RI.nil _ _, Below.refl _ _⟩
  case round =>
    obtain ⟨i, hi, rfl, rfl, hri, hb⟩ := hrel
    obtain ⟨wo, rfl⟩ : ∃ wo, wo = wr := ⟨_, rfl⟩
    by_cases hlt : i < l.length
    · rcases hlie with hlie | ⟨b, off, rfl, _, hcell⟩
      · subst hlie; simp at hlt
      have q0 := (hb.cell (p := ⟨b, off + i * 2, none⟩) (World.block_lt_of_cell? w _ (hcell i hlt).1)).trans (hcell i hlt).1
      have q1 := (hb.cell (p := ⟨b, off + i * 2 + 1, none⟩) (World.block_lt_of_cell? w _ (hcell i hlt).2)).trans (hcell i hlt).2
      have hI : (i : Int) < (l.length : Int) := by omega
      have hmt := merge_take l i hlt
      have hml : (mergeL (l.take i)).length ≤ i := Nat.le_trans (merge_len _) (by rw [List.length_take]; omega)
      have hmo := (merge_can (l.take i)).ok
      generalize ra l i = rr at *
      obtain ⟨x, y⟩ := rr
      simp only at q0 q1
      generalize hout : mergeL (l.take i) = out at *
      obtain ⟨A, hA⟩ : ∃ A, max x 0 = A := ⟨_, rfl⟩
      obtain ⟨C, hC⟩ : ∃ C, min y 1114111 = C := ⟨_, rfl⟩
      rw [merge_put out hA hC] at hmt
      have hA0 : 0 ≤ A := by omega
      have hC0 : C ≤ 1114111 := by omega
      have HRI := hid_intro hri
      have HB := hid_intro hb
      have HMO := hid_intro hmo
      have HMT := hid_intro hmt
      have q0a := ((vb_a (Below.refl _ wo) (.cells #[.int .i64 0, .int .i64 0] 40)).cell (p := ⟨b, off + i * 2, none⟩) (World.block_lt_of_cell? wo _ q0)).trans q0
      have q1a := ((vb_a (Below.refl _ wo) (.cells #[.int .i64 0, .int .i64 0] 40)).cell (p := ⟨b, off + i * 2 + 1, none⟩) (World.block_lt_of_cell? wo _ q1)).trans q1
      obtain ⟨ao3, cap3, hs3, hlm⟩ := hri.shape
      clear hcell hwf hc hcm hri hb hmo hout hlm
      by_cases hAC : C < A
      · have HE : Hid (mergeL (l.take (i + 1)) = out) := hid_intro (by rw [HMT.out, if_pos hAC])
        clear HMT hmt hA0 hC0
        go_wp2_with fail
        go_region
        all_goals
          go_wp2_with fail
          go_roundg (l.length - (i + 1))
          case measure => omega
          case rel => exact ⟨i + 1, by omega, rfl, by simp, by rw [HE.out]; exact HRI.out.kept (by with_reducible repeat (first | exact Below.refl _ _ | refine vb_d ?_ | refine vb_n ?_ _ | refine vb_a ?_ _)), by with_reducible repeat (first | exact HB.out | refine vb_d ?_ | refine vb_n ?_ _ | refine vb_a ?_ _)⟩
      · have HE : Hid (mergeL (l.take (i + 1)) = putR out (A, C)) := hid_intro (by rw [HMT.out, if_neg hAC])
        have hok0 : okR (A, C) := ⟨hA0, by show A ≤ C; omega, hC0⟩
        have HK0 := hid_intro hok0
        have hlo : (out.length : Int) ≤ 1073741824 := by omega
        subst hs3
        clear HMT hmt hok0
        go_wp2_with fail
        go_region
        all_goals
          go_wp2_with fail
          go_loopg [6, 7, 8] out.length (fun m s6 s7 s8 w2 => ∃ (k : Nat) (nx : List (Int × Int)) (pb : Bool) (xa xb : Int), k ≤ out.length ∧ m = out.length - k ∧ s8 = .int .i64 (k : Int) ∧ s7 = .bool pb ∧ nx.length ≤ 2 * k ∧ Hid (okR (xa, xb)) ∧ OwnR w2 (wo.heap.size + 1) s6 nx ∧ Bk w2 wo.heap.size #[.int .i64 xa, .int .i64 xb] ∧ Hid (putLast ((out.drop k).foldl stepM (nx, pb, (xa, xb))) = putR out (A, C)) ∧ Below wo.heap.size wo w2)
          case atStart =>
            refine ⟨0, [], false, A, C, Nat.zero_le _, rfl, rfl, rfl, Nat.zero_le _, HK0, OwnR.nil _ _, ?_, hid_intro rfl, ?_⟩
            · with_reducible repeat (first | refine Bk.dw ?_ | refine Bk.dr ?_ _ | exact Bk.new _ _ _)
            · with_reducible repeat (first | exact Below.refl _ _ | refine vb_d ?_ | refine vb_n ?_ _ | refine vb_a ?_ _)
          case round =>
            clear HK0
            obtain ⟨k, nx, pb, xa, xb, hk, rfl, rfl, rfl, hnx, HX, hown, hbk, HG, hb2⟩ := hrel
            obtain ⟨x0, x1, x2⟩ := HX.out
            simp only at x0 x1 x2
            obtain ⟨c0, c1⟩ := hbk.c2
            obtain ⟨z0, z1⟩ := hbk.z2
            have HBK := hid_intro hbk
            have HOWN := hid_intro hown
            have HB2 := hid_intro hb2
            have hne : u6.ownBlock ≠ some wo.heap.size := fun e => by have := (hown.lt _ e).1; omega
            by_cases hkl : k < out.length
            · have hri2 := HRI.out.kept hb2
              obtain ⟨ao9, cap9, h91, h92, h93, h94, h95⟩ := hri2
              rcases h95 with h95 | ⟨bo, oo, h96, _, h97⟩
              · subst h95; simp at hkl
              obtain ⟨rfl, rfl⟩ : ao3 = ao9 ∧ cap3 = cap9 := by simpa using h91
              subst h96
              have r0 := (h97 k hkl).1
              have r1 := (h97 k hkl).2
              have hI2 : (k : Int) < (out.length : Int) := by omega
              have hokr := HMO.out _ (ra_mem hkl)
              have hdr := drop_ra out k hkl
              generalize ra out k = rr at *
              obtain ⟨p, q⟩ := rr
              simp only at r0 r1
              obtain ⟨p0, p1, p2⟩ := hokr
              simp only at p0 p1 p2
              rw [hdr, List.foldl_cons] at HG
              have hi : I64 p ∧ I64 q := ⟨I64_of (by omega) (by omega), I64_of (by omega) (by omega)⟩
              have hix : I64 xa ∧ I64 xb := ⟨I64_of (by omega) (by omega), I64_of (by omega) (by omega)⟩
              obtain ⟨W, hW⟩ : ∃ W, wr.alloc (.cells #[.int .i64 p, .int .i64 q] 40) = W := ⟨_, rfl⟩
              have hWb : Below wr.heap.size wr W := hW ▸ vb_a (Below.refl _ _) _
              have kW : Bk W wr.heap.size #[.int .i64 p, .int .i64 q] := hW ▸ Bk.new _ _ _
              have kX := hbk.bel hWb
              obtain ⟨b0, b1⟩ := kW.c2
              obtain ⟨e0, e1⟩ := kX.c2
              obtain ⟨y0, y1⟩ := kX.z2
              have HKW := hid_intro kW
              have HKX := hid_intro kX
              have HOW := hid_intro (hown.below hWb)
              have HBW := hid_intro (vb_t hb2 hWb)
              have hnr : u6.ownBlock ≠ some wr.heap.size := fun e => by have := (hown.lt _ e).2; omega
              have hsz : wo.heap.size + 1 ≤ W.heap.size := by have := kX.lt; omega
              clear h97 hdr hown hb2 hbk kW kX HOWN HB2 HBK hWb h91 h92 h93 h94 z0 z1 c0 c1
              by_cases g1 : q + 1 < xa
              · have HG2 : Hid (putLast ((out.drop (k + 1)).foldl stepM (nx ++ [(p, q)], pb, (xa, xb))) = putR out (A, C)) := hid_intro (by rw [← HG.out, step_first g1])
                clear HG
                go_wp2_with (at_builtin; refine wpList_append_rngW rfl _ _ rfl (wo.heap.size + 1) _ nx p q rfl ?cO ?cB ?cS hi _ rfl (by simp [go_sem]) (by simp [go_sem]) ?_)
                case cO => exact HOW.out.below (by with_reducible repeat (first | exact Below.refl _ _ | refine vb_d ?_ | refine vb_a ?_ _))
                case cB => omega
                case cS => omega
                intro v' w3 ho3 hg3
                have hb3 : Below wo.heap.size wo w3 := (show Below wo.heap.size wo _ by with_reducible repeat (first | exact HBW.out | refine vb_d ?_ | refine vb_a ?_ _)).grown hg3 (by simp; omega) (fun j hj => by have := (HOW.out.lt j hj).1; omega)
                have hk3 : Bk w3 wo.heap.size #[.int .i64 xa, .int .i64 xb] := Bk.grownT (HKX.out.al _) hg3 hne
                have HF := hid_intro (And.intro ho3 (And.intro hk3 hb3))
                clear ho3 hg3 hb3 hk3
                go_wp2_with fail
                go_roundg (out.length - (k + 1))
                case measure => omega
                case rel => exact ⟨k + 1, nx ++ [(p, q)], pb, xa, xb, by omega, rfl, by simp, rfl, by simp; omega, HX, HF.out.1, HF.out.2.1, HG2, HF.out.2.2⟩
              · by_cases g2 : xb + 1 < p
                · cases pb
                  · have HG2 : Hid (putLast ((out.drop (k + 1)).foldl stepM (nx ++ [(xa, xb)] ++ [(p, q)], true, (xa, xb))) = putR out (A, C)) := hid_intro (by rw [← HG.out, step_false g1 g2])
                    clear HG
                    go_wp2_with (at_builtin; refine wpList_append_rngW rfl _ _ rfl (wo.heap.size + 1) _ nx xa xb rfl ?cO ?cB ?cS hix _ rfl (by simp [go_sem]) (by simp [go_sem]) ?_)
                    case cO => exact HOW.out.below (by with_reducible repeat (first | exact Below.refl _ _ | refine vb_d ?_ | refine vb_a ?_ _))
                    case cB => omega
                    case cS => omega
                    intro v' w3 ho3 hg3
                    have hb3 : Below wo.heap.size wo w3 := (show Below wo.heap.size wo _ by with_reducible repeat (first | exact HBW.out | refine vb_d ?_ | refine vb_a ?_ _)).grown hg3 (by simp; omega) (fun j hj => by have := (HOW.out.lt j hj).1; omega)
                    have hk3 : Bk w3 wo.heap.size #[.int .i64 xa, .int .i64 xb] := Bk.grownT (HKX.out.al _) hg3 hne
                    have hr3 : Bk w3 wr.heap.size #[.int .i64 p, .int .i64 q] := Bk.grownT (HKW.out.al _) hg3 hnr
                    have hs3 : wo.heap.size + 1 ≤ w3.heap.size := by have := hk3.lt; omega
                    have hne3 : v'.ownBlock ≠ some wo.heap.size := fun e => by have := (ho3.lt _ e).1; omega
                    obtain ⟨t0, t1⟩ := hr3.c2
                    have HF := hid_intro (And.intro ho3 (And.intro hk3 hb3))
                    clear ho3 hg3 hb3 hk3 hr3 e0 e1 y0 y1 b0 b1 hW
                    go_wp2_with (at_builtin; refine wpList_append_rngW rfl _ _ rfl (wo.heap.size + 1) _ (nx ++ [(xa, xb)]) p q rfl ?cO ?cB ?cS hi _ rfl (by simp [go_sem]) (by simp [go_sem]) ?_)
                    case cO => exact HF.out.1.below (by with_reducible repeat (first | exact Below.refl _ _ | refine vb_d ?_ | refine vb_a ?_ _))
                    case cB => first | omega | (simp; omega)
                    case cS => first | omega | (simp; omega)
                    intro v4 w4 ho4 hg4
                    have hb4 : Below wo.heap.size wo w4 := (show Below wo.heap.size wo _ by with_reducible repeat (first | exact HF.out.2.2 | refine vb_d ?_ | refine vb_a ?_ _)).grown hg4 (by simp; omega) (fun j hj => by have := (HF.out.1.lt j hj).1; omega)
                    have hk4 : Bk w4 wo.heap.size #[.int .i64 xa, .int .i64 xb] := Bk.grownT (HF.out.2.1.al _) hg4 hne3
                    have HF4 := hid_intro (And.intro ho4 (And.intro hk4 hb4))
                    clear ho4 hg4 hb4 hk4
                    go_wp2_with fail
                    go_roundg (out.length - (k + 1))
                    case measure => omega
                    case rel => exact ⟨k + 1, nx ++ [(xa, xb)] ++ [(p, q)], true, xa, xb, by omega, rfl, by simp, rfl, by simp; omega, HX, by rw [List.append_assoc]; exact HF4.out.1, HF4.out.2.1, HG2, HF4.out.2.2⟩
                  · have HG2 : Hid (putLast ((out.drop (k + 1)).foldl stepM (nx ++ [(p, q)], true, (xa, xb))) = putR out (A, C)) := hid_intro (by rw [← HG.out, step_put g1 g2])
                    clear HG
                    go_wp2_with (at_builtin; refine wpList_append_rngW rfl _ _ rfl (wo.heap.size + 1) _ nx p q rfl ?cO ?cB ?cS hi _ rfl (by simp [go_sem]) (by simp [go_sem]) ?_)
                    case cO => exact HOW.out.below (by with_reducible repeat (first | exact Below.refl _ _ | refine vb_d ?_ | refine vb_a ?_ _))
                    case cB => omega
                    case cS => omega
                    intro v' w3 ho3 hg3
                    have hb3 : Below wo.heap.size wo w3 := (show Below wo.heap.size wo _ by with_reducible repeat (first | exact HBW.out | refine vb_d ?_ | refine vb_a ?_ _)).grown hg3 (by simp; omega) (fun j hj => by have := (HOW.out.lt j hj).1; omega)
                    have hk3 : Bk w3 wo.heap.size #[.int .i64 xa, .int .i64 xb] := Bk.grownT (HKX.out.al _) hg3 hne
                    have HF := hid_intro (And.intro ho3 (And.intro hk3 hb3))
                    clear ho3 hg3 hb3 hk3
                    go_wp2_with fail
                    go_roundg (out.length - (k + 1))
                    case measure => omega
                    case rel => exact ⟨k + 1, nx ++ [(p, q)], true, xa, xb, by omega, rfl, by simp, rfl, by simp; omega, HX, HF.out.1, HF.out.2.1, HG2, HF.out.2.2⟩
                · have HG2 : Hid (putLast ((out.drop (k + 1)).foldl stepM (nx, pb, (min xa p, max xb q))) = putR out (A, C)) := hid_intro (by rw [← HG.out, step_join g1 g2])
                  have HX2 : Hid (okR (min xa p, max xb q)) := hid_intro ⟨by show 0 ≤ min xa p; omega, by show min xa p ≤ max xb q; omega, by show max xb q ≤ 1114111; omega⟩
                  have HS : Hid (OwnR ((W.setCell ⟨wo.heap.size, 0, none⟩ (.int .i64 (min xa p))).setCell ⟨wo.heap.size, 1, none⟩ (.int .i64 (max xb q))) (wo.heap.size + 1) u6 nx ∧ Bk ((W.setCell ⟨wo.heap.size, 0, none⟩ (.int .i64 (min xa p))).setCell ⟨wo.heap.size, 1, none⟩ (.int .i64 (max xb q))) wo.heap.size #[.int .i64 (min xa p), .int .i64 (max xb q)] ∧ Below wo.heap.size wo ((W.setCell ⟨wo.heap.size, 0, none⟩ (.int .i64 (min xa p))).setCell ⟨wo.heap.size, 1, none⟩ (.int .i64 (max xb q)))) :=
                    hid_intro ⟨OwnR.away (OwnR.away HOW.out hne _) hne _, Bk.set (Bk.set HKX.out 0 _ rfl) 1 _ rfl, vb_s (vb_s HBW.out (Nat.le_refl _) _) (Nat.le_refl _) _⟩
                  clear HG
                  go_wp2_with fail
                  go_roundg (out.length - (k + 1))
                  case measure => omega
                  case rel => exact ⟨k + 1, nx, pb, min xa p, max xb q, by omega, rfl, by simp, rfl, by omega, HX2, HS.out.1, HS.out.2.1, HG2, HS.out.2.2⟩
            · obtain rfl : k = out.length := by omega
              have hI2 : ¬ ((out.length : Int) < (out.length : Int)) := by omega
              have HG2 : Hid (putLast (nx, pb, (xa, xb)) = putR out (A, C)) := hid_intro (by rw [← HG.out, List.drop_length]; rfl)
              clear HG hbk hown hb2
              cases pb
              · have hi : I64 xa ∧ I64 xb := ⟨I64_of (by omega) (by omega), I64_of (by omega) (by omega)⟩
                go_wp2_with (at_builtin; refine wpList_append_rngW rfl _ _ rfl (wo.heap.size + 1) _ nx xa xb rfl ?cO ?cB ?cS hi _ rfl (by simp [go_sem]) (by simp [go_sem]) ?_)
                case cO => exact HOWN.out.below (by with_reducible repeat (first | exact Below.refl _ _ | refine vb_d ?_ | refine vb_a ?_ _))
                case cB => have := HB2.out.size; have := HBK.out.lt; simp; omega
                case cS => omega
                intro v' w3 ho3 hg3
                have hb3 : Below wo.heap.size wo w3 := (show Below wo.heap.size wo _ by with_reducible repeat (first | exact HB2.out | refine vb_d ?_ | refine vb_a ?_ _)).grown hg3 (by have := HB2.out.size; simp; omega) (fun j hj => by have := (HOWN.out.lt j hj).1; omega)
                have HF : Hid (RI w3 (fun _ => False) (mergeL (l.take (i + 1))) v' ∧ Below w.heap.size w w3) := hid_intro ⟨by rw [HE.out, ← HG2.out]; exact ho3.ri _ (fun _ _ h => h), vb_t HB.out hb3⟩
                clear ho3 hg3 hb3
                go_wp2_with fail
                go_roundg (l.length - (i + 1))
                case measure => omega
                case rel => exact ⟨i + 1, by omega, rfl, by simp, HF.out.1, HF.out.2⟩
              · have HF : Hid (RI wr (fun _ => False) (mergeL (l.take (i + 1))) u6 ∧ Below w.heap.size w wr) := hid_intro ⟨by rw [HE.out, ← HG2.out]; exact HOWN.out.ri _ (fun _ _ h => h), vb_t HB.out HB2.out⟩
                go_wp2_with fail
                go_roundg (l.length - (i + 1))
                case measure => omega
                case rel => exact ⟨i + 1, by omega, rfl, by simp, HF.out.1, HF.out.2⟩
    · obtain rfl : i = l.length := by omega
      have hI : ¬ ((l.length : Int) < (l.length : Int)) := by omega
      rw [List.take_length] at hri
      go_wp2_with fail
      go_ret
      exact ⟨_, rfl, hri, hb⟩
end Go.Proofs.YtoinlmfodmgohaaGreatDoor

namespace Go.Proofs.YtoinlmfodmgohaaGreatDoor
open Go.RowKit
attribute [local go_sem] setCell_drewN alloc_drewN

/-- The document's question of one state. -/
def refQ (n : Int) (k : Int) (m : Nat) (a b : Int) : Prop := 1 ≤ k ∧ k ≤ 7 ∧ 0 ≤ a ∧ a < n ∧ 0 ≤ b ∧ b < n ∧ (k = 7 → a = 0) ∧ (k ≠ 2 → b = 0) ∧ (k ≠ 1 → m = 0)
theorem rg_none {r : List (Int × Int)} (h : r.length = 0) : rgB r = true := by
  obtain rfl : r = [] := List.eq_nil_of_length_eq_zero h
  decide
theorem st_yes {n : Int} {s : ST} (h : refQ n s.k s.r.length s.a s.b) : stB n s = rgB s.r := by
  obtain ⟨k, r, a, b⟩ := s
  obtain ⟨h1, h2, h3, h4, h5, h6, h7, h8, h9⟩ := h
  dsimp only at *
  have ea : inB a n = true := by unfold inB; rw [decide_eq_true h3, decide_eq_true h4]; rfl
  have eb : inB b n = true := by unfold inB; rw [decide_eq_true h5, decide_eq_true h6]; rfl
  unfold stB
  dsimp only
  rw [ea, eb]
  by_cases c1 : k = 1
  · rw [if_pos c1, decide_eq_true (h8 (by omega))]; rfl
  · have hm := h9 c1
    rw [if_neg c1, rg_none hm, decide_eq_true hm]
    by_cases c2 : k = 2
    · rw [if_pos c2]; rfl
    · have hb := h8 c2
      rw [if_neg c2, decide_eq_true hb]
      by_cases c3 : k = 3 ∨ k = 4 ∨ k = 5 ∨ k = 6
      · rw [if_pos c3]; rfl
      · have c7 : k = 7 := by omega
        rw [if_neg c3, if_pos c7, decide_eq_true (h7 c7)]; rfl
theorem st_no {n : Int} (hn : 0 < n) {s : ST} (h : ¬ refQ n s.k s.r.length s.a s.b) : stB n s = false := by
  cases hb : stB n s with
  | false => rfl
  | true =>
    exfalso
    apply h
    obtain ⟨k, r, a, b⟩ := s
    unfold stB inB at hb
    unfold refQ
    dsimp only at *
    by_cases c1 : k = 1
    · rw [if_pos c1] at hb
      simp only [Bool.and_eq_true, decide_eq_true_eq] at hb
      omega
    · rw [if_neg c1] at hb
      by_cases c2 : k = 2
      · rw [if_pos c2] at hb
        simp only [Bool.and_eq_true, decide_eq_true_eq] at hb
        omega
      · rw [if_neg c2] at hb
        by_cases c3 : k = 3 ∨ k = 4 ∨ k = 5 ∨ k = 6
        · rw [if_pos c3] at hb
          simp only [Bool.and_eq_true, decide_eq_true_eq] at hb
          omega
        · rw [if_neg c3] at hb
          by_cases c7 : k = 7
          · rw [if_pos c7] at hb
            simp only [Bool.and_eq_true, decide_eq_true_eq] at hb
            omega
          · rw [if_neg c7] at hb
            cases hb
set_option maxRecDepth 100000 in
set_option maxHeartbeats 6400000 in
theorem refNfa_any (l : List ST) (v : Value) (w : World) (X : Nat → Prop) (hR : SI w X l v) (hl : ∀ s ∈ l, s.r.length ≤ 1073741824) :
    Calls Tryz.prog 64 #[v] w fun e w' => e = .returned (.int .i64 (if nfaB l = true then 0 else 101)) ∧ Below w.heap.size w w' := by
  have hR0 := hR
  obtain ⟨ao, cap, rfl, hc, hcm, hok, hlie⟩ := hR
  have hlI : (l.length : Int) ≤ 9223372036854775807 := by unfold maxLen at hcm; omega
  obtain ⟨P, hP⟩ : ∃ P : Ending → World → Prop, P = fun e w' => e = .returned (.int .i64 (if nfaB l = true then 0 else 101)) ∧ Below w.heap.size w w' := ⟨_, rfl⟩
  rw [← hP]
  have HP := hid_intro hP
  clear hP
  have HL : Hid (∀ w' i, Below w.heap.size w w' → i < l.length → ∃ b off v2 c2, ao = some ⟨b, off, none⟩ ∧ w'.cell? ⟨b, off + i * 4, none⟩ = some (.int .i64 (sa l i).k) ∧ w'.cell? ⟨b, off + i * 4 + 1, none⟩ = some (.slice v2 (sa l i).r.length c2) ∧ w'.cell? ⟨b, off + i * 4 + 2, none⟩ = some (.int .i64 (sa l i).a) ∧ w'.cell? ⟨b, off + i * 4 + 3, none⟩ = some (.int .i64 (sa l i).b) ∧ RI w' X (sa l i).r (.slice v2 (sa l i).r.length c2)) := hid_intro (fun w' i hb hi => by
    obtain ⟨ao', cap', e, _, _, _, hlie'⟩ := hR0.kept hb
    injection e with e1 _ e3
    rcases hlie' with h | ⟨b, off, G, h1, h2, h3⟩
    · rw [h] at hi; simp at hi
    · obtain ⟨⟨q0, q1, q2, q3⟩, hRi⟩ := h3 i hi
      obtain ⟨v2, c2, e2, _⟩ := hRi.shape
      rw [e2] at q1 hRi
      exact ⟨b, off, v2, c2, e1.trans h1, q0, q1, q2, q3, hRi⟩)
  have HM := hid_intro hl
  clear hlie hR0 hok hl
  go_enter Tryz.func64, Tryz.ntmps64
  go_wp2_with fail
  go_loopg [3] l.length (fun m s3 wr => ∃ j : Nat, j ≤ l.length ∧ m = l.length - j ∧ s3 = .int .i64 (j : Int) ∧ Hid (∀ i, i < j → stB (l.length : Int) (sa l i) = true) ∧ Hid (Below w.heap.size w wr))
  case atStart => exact ⟨0, Nat.zero_le _, rfl, rfl, fun i h => absurd h (by omega), Below.refl _ _⟩
  case round =>
    obtain ⟨j, hj, rfl, rfl, HA, HZ⟩ := hrel
    by_cases hlt : j < l.length
    · have hJ : (j : Int) < (l.length : Int) := by omega
      obtain ⟨b, off, v2, c2, rfl, q0, q1, q2, q3, hRi⟩ := HL.out wr j HZ.out hlt
      have hmg : ∀ w', Below wr.heap.size wr w' → Calls Tryz.prog 97 #[.slice v2 (sa l j).r.length c2] w' fun e w2 => ∃ v', e = .returned v' ∧ RI w2 (fun _ => False) (mergeL (sa l j).r) v' ∧ Below w'.heap.size w' w2 := fun w' hb => refMerge_any _ _ w' X (hRi.kept hb) (HM.out _ (sa_mem hlt))
      have hrg : ∀ w' v', Below wr.heap.size wr w' → RI w' (fun _ => False) (mergeL (sa l j).r) v' → Calls Tryz.prog 96 #[v', .slice v2 (sa l j).r.length c2] w' fun e w2 => e = .returned (.bool (rgB (sa l j).r)) ∧ Below w'.heap.size w' w2 := fun w' v' hb hr => by
        have := ranges_any _ _ _ _ w' _ _ hr (hRi.kept hb)
        rw [← rg_set] at this
        exact this
      have hno : ¬ refQ (l.length : Int) (sa l j).k (sa l j).r.length (sa l j).a (sa l j).b → nfaB l = false := fun h => by
        unfold nfaB
        rw [decide_eq_true (by omega : l.length ≠ 0), Bool.true_and, List.all_eq_false]
        exact ⟨sa l j, sa_mem hlt, by rw [st_no (by omega) h]; decide⟩
      have hyes : refQ (l.length : Int) (sa l j).k (sa l j).r.length (sa l j).a (sa l j).b → (rgB (sa l j).r = false → nfaB l = false) ∧ (rgB (sa l j).r = true → Hid (∀ i, i < j + 1 → stB (l.length : Int) (sa l i) = true)) := fun h => ⟨fun hg => by
        unfold nfaB
        rw [decide_eq_true (by omega : l.length ≠ 0), Bool.true_and, List.all_eq_false]
        exact ⟨sa l j, sa_mem hlt, by rw [st_yes h, hg]; decide⟩, fun hg => hid_intro (fun i hi => by
          by_cases e : i = j
          · rw [e, st_yes h, hg]
          · exact HA.out i (by omega))⟩
      have HMG := hid_intro hmg
      have HRG := hid_intro hrg
      clear hmg hrg hRi HL HM HA
      generalize mergeL (sa l j).r = mr at *
      generalize rgB (sa l j).r = gb at *
      generalize (sa l j).k = K at *
      generalize (sa l j).r.length = R at *
      generalize (sa l j).a = A at *
      generalize (sa l j).b = B at *
      have hln : ¬ l = [] := fun e => by rw [e] at hlt; simp at hlt
      have HN := hid_intro hno
      have HY := hid_intro hyes
      clear hno hyes
      by_cases t1 : K < 1
      · have HF := hid_intro (HN.out (by unfold refQ; omega))
        clear HN HY HMG HRG
        go_wp2_with fail
        rw [HP.out, HF.out]
        exact ⟨rfl, vb_a HZ.out _⟩
      · by_cases t2 : K > 7
        · have HF := hid_intro (HN.out (by unfold refQ; omega))
          clear HN HY HMG HRG
          go_wp2_with fail
          rw [HP.out, HF.out]
          exact ⟨rfl, vb_a HZ.out _⟩
        · by_cases t3 : A < 0
          · have HF := hid_intro (HN.out (by unfold refQ; omega))
            clear HN HY HMG HRG
            go_wp2_with fail
            rw [HP.out, HF.out]
            exact ⟨rfl, vb_a HZ.out _⟩
          · by_cases t4 : A ≥ (l.length : Int)
            · have HF := hid_intro (HN.out (by unfold refQ; omega))
              clear HN HY HMG HRG
              go_wp2_with fail
              rw [HP.out, HF.out]
              exact ⟨rfl, vb_a HZ.out _⟩
            · by_cases t5 : B < 0
              · have HF := hid_intro (HN.out (by unfold refQ; omega))
                clear HN HY HMG HRG
                go_wp2_with fail
                rw [HP.out, HF.out]
                exact ⟨rfl, vb_a HZ.out _⟩
              · by_cases t6 : B ≥ (l.length : Int)
                · have HF := hid_intro (HN.out (by unfold refQ; omega))
                  clear HN HY HMG HRG
                  go_wp2_with fail
                  rw [HP.out, HF.out]
                  exact ⟨rfl, vb_a HZ.out _⟩
                · by_cases k7 : K = 7
                  · subst k7
                    by_cases hA : A = 0
                    · subst hA
                      by_cases hB : B = 0
                      · subst hB
                        by_cases hm : R = 0
                        · have hmI : ¬ (0 : Int) < (R : Int) := by omega
                          have hmN : ¬ 0 < R := by omega
                          have hy := HY.out (by unfold refQ; omega)
                          obtain ⟨V, hV⟩ : ∃ V, wr.alloc (.cells #[.int .i64 7, .slice v2 R c2, .int .i64 0, .int .i64 0] 94) = V := ⟨_, rfl⟩
                          have hVb : Below wr.heap.size wr V := hV ▸ vb_a (Below.refl _ _) _
                          have kV : Bk V wr.heap.size #[.int .i64 7, .slice v2 R c2, .int .i64 0, .int .i64 0] := hV ▸ Bk.new _ _ _
                          have HS : Hid (∀ w', Below V.heap.size V w' → w'.cell? ⟨wr.heap.size, 1, none⟩ = some (.slice v2 R c2)) := hid_intro (fun w' hb => (kV.bel hb).cell 1)
                          have HMG2 := hid_intro (fun w' (hb : Below V.heap.size V w') => HMG.out w' (vb_t hVb hb))
                          have HRG2 := hid_intro (fun w' v' (hb : Below V.heap.size V w') => HRG.out w' v' (vb_t hVb hb))
                          have HV := hid_intro hV
                          have HVb := hid_intro hVb
                          have HYY := hid_intro hy
                          clear HN HY HMG HRG hV hVb kV hy
                          clear hm
                          go_wp2_with fail
                          rw [HV.out]
                          go_region_held3 (fun w' => w'.cell? ⟨wr.heap.size, 1, none⟩ = some (.slice v2 R c2)) (first | (refine HS.out _ ?_; with_reducible repeat (first | exact Below.refl _ _ | refine vb_d ?_ | refine vb_t ?_ hb5 | refine vb_t ?_ hb4)) | fail) (first | (go_at_call 97; refine (HMG2.out _ ?_).mono ?_; (with_reducible repeat (first | exact Below.refl _ _ | refine vb_d ?_)); rintro e w4 ⟨v4, rfl, hR4, hb4⟩) | (go_at_call 96; refine (HRG2.out _ _ ?_ hR4).mono ?_; (with_reducible repeat (first | exact Below.refl _ _ | refine vb_d ?_ | refine vb_t ?_ hb4)); rintro e w5 ⟨rfl, hb5⟩) | fail)
                          all_goals
                            have HNX : Hid (Below w.heap.size w w5) := hid_intro (vb_t HZ.out (vb_t HVb.out (vb_t (by with_reducible repeat (first | exact Below.refl _ _ | refine vb_d ?_ | refine vb_t ?_ hb4)) hb5)))
                            clear hb4 hb5 hR4 HMG2 HRG2 HS HV HVb
                            cases gb
                            · have HF := hid_intro (HYY.out.1 rfl)
                              clear HYY
                              go_wp2_with fail
                              rw [HP.out, HF.out]
                              exact ⟨rfl, HNX.out⟩
                            · have HA2 := HYY.out.2 rfl
                              clear HYY
                              go_wp2_with fail
                              go_roundg (l.length - (j + 1))
                              case measure => omega
                              case rel => exact ⟨j + 1, by omega, rfl, by simp, HA2, HNX⟩
                        · have hmI : (0 : Int) < (R : Int) := by omega
                          have hmN : 0 < R := by omega
                          have HF := hid_intro (HN.out (by unfold refQ; omega))
                          clear HN HY HMG HRG
                          clear hm
                          go_wp2_with fail
                          rw [HP.out, HF.out]
                          exact ⟨rfl, vb_a HZ.out _⟩
                      · have HF := hid_intro (HN.out (by unfold refQ; omega))
                        clear HN HY HMG HRG
                        go_wp2_with fail
                        rw [HP.out, HF.out]
                        exact ⟨rfl, vb_a HZ.out _⟩
                    · have HF := hid_intro (HN.out (by unfold refQ; omega))
                      clear HN HY HMG HRG
                      go_wp2_with fail
                      rw [HP.out, HF.out]
                      exact ⟨rfl, vb_a HZ.out _⟩
                  · by_cases k2 : K = 2
                    · subst k2
                      by_cases hm : R = 0
                      · have hmI : ¬ (0 : Int) < (R : Int) := by omega
                        have hmN : ¬ 0 < R := by omega
                        have hy := HY.out (by unfold refQ; omega)
                        obtain ⟨V, hV⟩ : ∃ V, wr.alloc (.cells #[.int .i64 2, .slice v2 R c2, .int .i64 A, .int .i64 B] 94) = V := ⟨_, rfl⟩
                        have hVb : Below wr.heap.size wr V := hV ▸ vb_a (Below.refl _ _) _
                        have kV : Bk V wr.heap.size #[.int .i64 2, .slice v2 R c2, .int .i64 A, .int .i64 B] := hV ▸ Bk.new _ _ _
                        have HS : Hid (∀ w', Below V.heap.size V w' → w'.cell? ⟨wr.heap.size, 1, none⟩ = some (.slice v2 R c2)) := hid_intro (fun w' hb => (kV.bel hb).cell 1)
                        have HMG2 := hid_intro (fun w' (hb : Below V.heap.size V w') => HMG.out w' (vb_t hVb hb))
                        have HRG2 := hid_intro (fun w' v' (hb : Below V.heap.size V w') => HRG.out w' v' (vb_t hVb hb))
                        have HV := hid_intro hV
                        have HVb := hid_intro hVb
                        have HYY := hid_intro hy
                        clear HN HY HMG HRG hV hVb kV hy
                        clear hm
                        go_wp2_with fail
                        rw [HV.out]
                        go_region_held3 (fun w' => w'.cell? ⟨wr.heap.size, 1, none⟩ = some (.slice v2 R c2)) (first | (refine HS.out _ ?_; with_reducible repeat (first | exact Below.refl _ _ | refine vb_d ?_ | refine vb_t ?_ hb5 | refine vb_t ?_ hb4)) | fail) (first | (go_at_call 97; refine (HMG2.out _ ?_).mono ?_; (with_reducible repeat (first | exact Below.refl _ _ | refine vb_d ?_)); rintro e w4 ⟨v4, rfl, hR4, hb4⟩) | (go_at_call 96; refine (HRG2.out _ _ ?_ hR4).mono ?_; (with_reducible repeat (first | exact Below.refl _ _ | refine vb_d ?_ | refine vb_t ?_ hb4)); rintro e w5 ⟨rfl, hb5⟩) | fail)
                        all_goals
                          have HNX : Hid (Below w.heap.size w w5) := hid_intro (vb_t HZ.out (vb_t HVb.out (vb_t (by with_reducible repeat (first | exact Below.refl _ _ | refine vb_d ?_ | refine vb_t ?_ hb4)) hb5)))
                          clear hb4 hb5 hR4 HMG2 HRG2 HS HV HVb
                          cases gb
                          · have HF := hid_intro (HYY.out.1 rfl)
                            clear HYY
                            go_wp2_with fail
                            rw [HP.out, HF.out]
                            exact ⟨rfl, HNX.out⟩
                          · have HA2 := HYY.out.2 rfl
                            clear HYY
                            go_wp2_with fail
                            go_roundg (l.length - (j + 1))
                            case measure => omega
                            case rel => exact ⟨j + 1, by omega, rfl, by simp, HA2, HNX⟩
                      · have hmI : (0 : Int) < (R : Int) := by omega
                        have hmN : 0 < R := by omega
                        have HF := hid_intro (HN.out (by unfold refQ; omega))
                        clear HN HY HMG HRG
                        clear hm
                        go_wp2_with fail
                        rw [HP.out, HF.out]
                        exact ⟨rfl, vb_a HZ.out _⟩
                    · by_cases k1 : K = 1
                      · subst k1
                        by_cases hB : B = 0
                        · subst hB
                          have hy := HY.out (by unfold refQ; omega)
                          obtain ⟨V, hV⟩ : ∃ V, wr.alloc (.cells #[.int .i64 1, .slice v2 R c2, .int .i64 A, .int .i64 0] 94) = V := ⟨_, rfl⟩
                          have hVb : Below wr.heap.size wr V := hV ▸ vb_a (Below.refl _ _) _
                          have kV : Bk V wr.heap.size #[.int .i64 1, .slice v2 R c2, .int .i64 A, .int .i64 0] := hV ▸ Bk.new _ _ _
                          have HS : Hid (∀ w', Below V.heap.size V w' → w'.cell? ⟨wr.heap.size, 1, none⟩ = some (.slice v2 R c2)) := hid_intro (fun w' hb => (kV.bel hb).cell 1)
                          have HMG2 := hid_intro (fun w' (hb : Below V.heap.size V w') => HMG.out w' (vb_t hVb hb))
                          have HRG2 := hid_intro (fun w' v' (hb : Below V.heap.size V w') => HRG.out w' v' (vb_t hVb hb))
                          have HV := hid_intro hV
                          have HVb := hid_intro hVb
                          have HYY := hid_intro hy
                          clear HN HY HMG HRG hV hVb kV hy
                          go_wp2_with fail
                          rw [HV.out]
                          go_region_held3 (fun w' => w'.cell? ⟨wr.heap.size, 1, none⟩ = some (.slice v2 R c2)) (first | (refine HS.out _ ?_; with_reducible repeat (first | exact Below.refl _ _ | refine vb_d ?_ | refine vb_t ?_ hb5 | refine vb_t ?_ hb4)) | fail) (first | (go_at_call 97; refine (HMG2.out _ ?_).mono ?_; (with_reducible repeat (first | exact Below.refl _ _ | refine vb_d ?_)); rintro e w4 ⟨v4, rfl, hR4, hb4⟩) | (go_at_call 96; refine (HRG2.out _ _ ?_ hR4).mono ?_; (with_reducible repeat (first | exact Below.refl _ _ | refine vb_d ?_ | refine vb_t ?_ hb4)); rintro e w5 ⟨rfl, hb5⟩) | fail)
                          all_goals
                            have HNX : Hid (Below w.heap.size w w5) := hid_intro (vb_t HZ.out (vb_t HVb.out (vb_t (by with_reducible repeat (first | exact Below.refl _ _ | refine vb_d ?_ | refine vb_t ?_ hb4)) hb5)))
                            clear hb4 hb5 hR4 HMG2 HRG2 HS HV HVb
                            cases gb
                            · have HF := hid_intro (HYY.out.1 rfl)
                              clear HYY
                              go_wp2_with fail
                              rw [HP.out, HF.out]
                              exact ⟨rfl, HNX.out⟩
                            · have HA2 := HYY.out.2 rfl
                              clear HYY
                              go_wp2_with fail
                              go_roundg (l.length - (j + 1))
                              case measure => omega
                              case rel => exact ⟨j + 1, by omega, rfl, by simp, HA2, HNX⟩
                        · have HF := hid_intro (HN.out (by unfold refQ; omega))
                          clear HN HY HMG HRG
                          go_wp2_with fail
                          rw [HP.out, HF.out]
                          exact ⟨rfl, vb_a HZ.out _⟩
                      · have kb7 : (K == 7) = false := by rw [beq_eq_false_iff_ne]; exact k7
                        have kb2 : (K != 2) = true := by rw [bne_iff_ne]; exact k2
                        have kb1 : (K != 1) = true := by rw [bne_iff_ne]; exact k1
                        by_cases hB : B = 0
                        · subst hB
                          by_cases hm : R = 0
                          · have hmI : ¬ (0 : Int) < (R : Int) := by omega
                            have hmN : ¬ 0 < R := by omega
                            have hy := HY.out (by unfold refQ; omega)
                            obtain ⟨V, hV⟩ : ∃ V, wr.alloc (.cells #[.int .i64 K, .slice v2 R c2, .int .i64 A, .int .i64 0] 94) = V := ⟨_, rfl⟩
                            have hVb : Below wr.heap.size wr V := hV ▸ vb_a (Below.refl _ _) _
                            have kV : Bk V wr.heap.size #[.int .i64 K, .slice v2 R c2, .int .i64 A, .int .i64 0] := hV ▸ Bk.new _ _ _
                            have HS : Hid (∀ w', Below V.heap.size V w' → w'.cell? ⟨wr.heap.size, 1, none⟩ = some (.slice v2 R c2)) := hid_intro (fun w' hb => (kV.bel hb).cell 1)
                            have HMG2 := hid_intro (fun w' (hb : Below V.heap.size V w') => HMG.out w' (vb_t hVb hb))
                            have HRG2 := hid_intro (fun w' v' (hb : Below V.heap.size V w') => HRG.out w' v' (vb_t hVb hb))
                            have HV := hid_intro hV
                            have HVb := hid_intro hVb
                            have HYY := hid_intro hy
                            clear HN HY HMG HRG hV hVb kV hy
                            clear hm
                            go_wp2_with fail
                            rw [HV.out]
                            go_region_held3 (fun w' => w'.cell? ⟨wr.heap.size, 1, none⟩ = some (.slice v2 R c2)) (first | (refine HS.out _ ?_; with_reducible repeat (first | exact Below.refl _ _ | refine vb_d ?_ | refine vb_t ?_ hb5 | refine vb_t ?_ hb4)) | fail) (first | (go_at_call 97; refine (HMG2.out _ ?_).mono ?_; (with_reducible repeat (first | exact Below.refl _ _ | refine vb_d ?_)); rintro e w4 ⟨v4, rfl, hR4, hb4⟩) | (go_at_call 96; refine (HRG2.out _ _ ?_ hR4).mono ?_; (with_reducible repeat (first | exact Below.refl _ _ | refine vb_d ?_ | refine vb_t ?_ hb4)); rintro e w5 ⟨rfl, hb5⟩) | fail)
                            all_goals
                              have HNX : Hid (Below w.heap.size w w5) := hid_intro (vb_t HZ.out (vb_t HVb.out (vb_t (by with_reducible repeat (first | exact Below.refl _ _ | refine vb_d ?_ | refine vb_t ?_ hb4)) hb5)))
                              clear hb4 hb5 hR4 HMG2 HRG2 HS HV HVb
                              cases gb
                              · have HF := hid_intro (HYY.out.1 rfl)
                                clear HYY
                                go_wp2_with fail
                                rw [HP.out, HF.out]
                                exact ⟨rfl, HNX.out⟩
                              · have HA2 := HYY.out.2 rfl
                                clear HYY
                                go_wp2_with fail
                                go_roundg (l.length - (j + 1))
                                case measure => omega
                                case rel => exact ⟨j + 1, by omega, rfl, by simp, HA2, HNX⟩
                          · have hmI : (0 : Int) < (R : Int) := by omega
                            have hmN : 0 < R := by omega
                            have HF := hid_intro (HN.out (by unfold refQ; omega))
                            clear HN HY HMG HRG
                            clear hm
                            go_wp2_with fail
                            rw [HP.out, HF.out]
                            exact ⟨rfl, vb_a HZ.out _⟩
                        · have HF := hid_intro (HN.out (by unfold refQ; omega))
                          clear HN HY HMG HRG
                          go_wp2_with fail
                          rw [HP.out, HF.out]
                          exact ⟨rfl, vb_a HZ.out _⟩
    · have hJ : ¬ (j : Int) < (l.length : Int) := by omega
      by_cases h0 : l.length = 0
      · have hI : ((l.length : Int) == 0) = true := by rw [beq_iff_eq]; omega
        have HF : Hid (nfaB l = false) := hid_intro (by unfold nfaB; rw [decide_eq_false (by simpa using h0)]; rfl)
        clear HL HM HA h0
        go_wp2_with fail
        rw [HP.out, HF.out]
        exact ⟨rfl, HZ.out⟩
      · have hI : ((l.length : Int) == 0) = false := by rw [beq_eq_false_iff_ne]; omega
        have HF : Hid (nfaB l = true) := hid_intro (by
          unfold nfaB
          rw [decide_eq_true h0, Bool.true_and, List.all_eq_true]
          intro x hx
          obtain ⟨i, hi, rfl⟩ := List.getElem_of_mem hx
          rw [← sa_get hi]
          exact HA.out i (by omega))
        clear HL HM HA h0
        go_wp2_with fail
        rw [HP.out, HF.out]
        exact ⟨rfl, HZ.out⟩
end Go.Proofs.YtoinlmfodmgohaaGreatDoor
