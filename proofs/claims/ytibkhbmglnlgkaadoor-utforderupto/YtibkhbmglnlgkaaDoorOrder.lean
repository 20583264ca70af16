/-
  UtfOrder answers true for every two bytes, and leaves them as they were. Conditions: the bytes, with the table, are together of bulk at most 1048576 (the second form); the table of greatest code points as the program's text lays it (the card ties it).
-/
import Derived.Test.YtibkhbmglnlgkaaDoorRow
import Derived.Test.YtibkhbmglnlgkaaDoorM4
import Derived.Test.YtibkhbmglnlgkaaDoorSame
namespace Go.Proofs.YtibkhbmglnlgkaaDoor
open Go.ChangeShapes Go.WideShapes Go.ChangeAt Go.RowKit

/-- utf.Points, whatever comes: what the caller may lean on. -/
def errOf (b : Bool) : Int := if b = true then 0 else 10
theorem points_err (v : Value) (n : Nat) (f : Nat → Int) (w : World) (hT : Tab w) (hR : Row w v n f) (lo : ∀ i, 0 ≤ f i) (up : ∀ i, f i < 256) (hn : n ≤ 1048576) :
    Calls Tryd.prog 11 #[v] w fun e w' => ∃ r, e = .returned (.tuple #[r, .int .i64 (errOf (good n f).2)]) ∧ ((good n f).2 = true → IRow w' r (points n f)) ∧ Below w.heap.size w w' := by
  cases hg : (good n f).2
  · refine (points_none v n f w hT hR hg).mono ?_
    rintro e w' ⟨rfl, q, rfl⟩
    exact ⟨_, rfl, (fun h => by cases h), below_drewN (Below.refl _ _) q⟩
  · refine (points_some v n f w hT hR lo up (by omega) hg).mono ?_
    rintro e w' ⟨r, rfl, ho, hb⟩
    exact ⟨_, rfl, fun _ => IRow.of_own ho, hb⟩

set_option maxHeartbeats 400000 in
theorem order_bad (va vb : Value) (n m : Nat) (f g : Nat → Int) (w : World) (hT : Tab w) (h0 : 0 < w.heap.size) (hRa : Row w va n f) (hRb : Row w vb m g) (lf : ∀ i, 0 ≤ f i) (uf : ∀ i, f i < 256) (lg : ∀ i, 0 ≤ g i) (ug : ∀ i, g i < 256)
    (hn : n ≤ 1048576) (hm : m ≤ 1048576) (hg : (good n f).2 = false ∨ (good m g).2 = false) :
    Calls Tryd.prog 8 #[va, vb] w fun e w' => e = .returned (.bool true) ∧ Below w.heap.size w w' := by
  have ha := points_err va n f w hT hRa lf uf hn
  have hb := fun (w1 : World) (hb1 : Below w.heap.size w w1) => points_err vb m g w1 (hT.below hb1 h0) (hRb.below hb1) lg ug hm
  have hh := fun (w1 : World) (hb1 : Below w.heap.size w w1) => heads_any w1 (hT.below hb1 h0) (by have := hb1.size; omega)
  obtain ⟨x, hx⟩ : ∃ x, x = errOf (good n f).2 := ⟨_, rfl⟩
  obtain ⟨y, hy⟩ : ∃ y, y = errOf (good m g).2 := ⟨_, rfl⟩
  rw [← hx] at ha
  simp only [← hy] at hb
  have hxy : (x = 0 ∧ y = 10) ∨ x = 10 := by
    rcases hg with k | k
    · rw [k] at hx; exact .inr hx
    · rw [k] at hy
      cases z : (good n f).2
      · rw [z] at hx; exact .inr hx
      · rw [z] at hx; exact .inl ⟨hx, hy⟩
  clear hx hy hg
  rcases hxy with ⟨rfl, rfl⟩ | rfl
  all_goals
    go_enter Tryd.func8, Tryd.ntmps8
    go_wp2_with fail
    refine ha.mono ?_
    rintro e w1 ⟨r, rfl, _, hb1⟩
    have hbb := hb w1 hb1
    clear ha hb
    go_wp2_with fail
    refine hbb.mono ?_
    rintro e w2 ⟨r2, rfl, _, hb2⟩
    have hb3 : Below w.heap.size w w2 := hb1.trans (hb2.mono hb1.size)
    have hh2 := hh w2 hb3
    have hz2 := hb3.size
    clear hbb hh hb1 hb2
    go_wp2_with fail
    refine hh2.mono ?_
    rintro e w3 ⟨rfl, hb4⟩
    go_wp2
    go_ret
    exact ⟨rfl, hb3.trans (hb4.mono hz2)⟩

theorem cmpL_drop (x y : List Int) (j : Nat) (h1 : j < x.length) (h2 : j < y.length) : cmpL (x.drop j) (y.drop j) = if x.getD j 0 < y.getD j 0 then -1 else if y.getD j 0 < x.getD j 0 then 1 else cmpL (x.drop (j + 1)) (y.drop (j + 1)) := by
  rw [List.drop_eq_getElem_cons h1, List.drop_eq_getElem_cons h2, List.getD_eq_getElem?_getD, List.getD_eq_getElem?_getD, List.getElem?_eq_getElem h1, List.getElem?_eq_getElem h2]
  rfl
theorem cmpL_short (x y : List Int) (j : Nat) (h1 : j = x.length) (h2 : j < y.length) : cmpL (x.drop j) (y.drop j) = -1 := by
  rw [List.drop_eq_nil_of_le (by omega), List.drop_eq_getElem_cons h2]; rfl
theorem cmpL_long (x y : List Int) (j : Nat) (h1 : j < x.length) (h2 : j = y.length) : cmpL (x.drop j) (y.drop j) = 1 := by
  rw [List.drop_eq_getElem_cons h1, show y.drop j = [] from List.drop_eq_nil_of_le (by omega)]; rfl
theorem cmpL_both (x y : List Int) (j : Nat) (h1 : j = x.length) (h2 : j = y.length) : cmpL (x.drop j) (y.drop j) = 0 := by
  rw [List.drop_eq_nil_of_le (by omega), List.drop_eq_nil_of_le (by omega)]; rfl

/-- What stands at the head of each round. -/
def OrRel (x y : List Int) (w2 : World) (t i : Value) (wr : World) : Prop :=
  ∃ (j : Nat) (c : Int), t = .int .i64 c ∧ i = .int .i64 j ∧ ((c = 0 ∧ j ≤ x.length ∧ j ≤ y.length ∧ cmpL (x.drop j) (y.drop j) = cmpL x y) ∨ (c ≠ 0 ∧ c = cmpL x y)) ∧ ∃ q, wr = w2.drewN q

/-- What the law's last row calls, in the world behind the loop. -/
theorem order_tail (va vb : Value) (n m : Nat) (f g : Nat → Int) (w w2 : World) (x y : List Int) (q : Nat) (hT : Tab w) (h0 : 0 < w.heap.size) (hRa : Row w va n f) (hRb : Row w vb m g)
    (hb2 : Below w.heap.size w w2) (h1 : Lib.compareBytes (txt n f).data.toList (txt m g).data.toList = cmpL x y) (h2 : Lib.compareBytes (txt m g).data.toList (txt n f).data.toList = cmpL y x) :
    (convert 22 9 va).run Tryd.prog (w2.drewN q) = .ok (.string (txt n f)) (w2.drewN q) ∧ (convert 22 9 vb).run Tryd.prog (w2.drewN q) = .ok (.string (txt m g)) (w2.drewN q) ∧
    (Calls Tryd.prog 16 #[.string (txt n f), .string (txt m g)] (w2.drewN q) fun e w' => e = .returned (.int .i64 (cmpL x y)) ∧ w2.drewN q = w') ∧
    (Calls Tryd.prog 16 #[.string (txt m g), .string (txt n f)] (w2.drewN q) fun e w' => e = .returned (.int .i64 (- cmpL x y)) ∧ w2.drewN q = w') ∧
    (Calls Tryd.prog 18 #[] (w2.drewN q) fun e w' => e = .returned (.bool true) ∧ Below (w2.drewN q).heap.size (w2.drewN q) w') := by
  refine ⟨conv_row _ _ _ _ ((hRa.below hb2).drewN q), conv_row _ _ _ _ ((hRb.below hb2).drewN q), ?_, ?_, heads_any _ ((hT.below hb2 h0).drewN q) (by have := hb2.size; simp; omega)⟩
  · rw [← h1]; exact cmp16 _ _ _
  · rw [← cmpL_swap, ← h2]; exact cmp16 _ _ _

set_option maxHeartbeats 1000000 in
theorem order_ok (va vb : Value) (n m : Nat) (f g : Nat → Int) (w : World) (hT : Tab w) (h0 : 0 < w.heap.size) (hRa : Row w va n f) (hRb : Row w vb m g) (lf : ∀ i, 0 ≤ f i) (uf : ∀ i, f i < 256) (lg : ∀ i, 0 ≤ g i) (ug : ∀ i, g i < 256)
    (hn : n ≤ 1048576) (hm : m ≤ 1048576) (hg : (good n f).2 = true) (hg' : (good m g).2 = true) :
    Calls Tryd.prog 8 #[va, vb] w fun e w' => e = .returned (.bool true) ∧ Below w.heap.size w w' := by
  have ha := points_err va n f w hT hRa lf uf hn
  have hb := fun (w1 : World) (hb1 : Below w.heap.size w w1) => points_err vb m g w1 (hT.below hb1 h0) (hRb.below hb1) lg ug hm
  have HCM : Hid (Lib.compareBytes (txt n f).data.toList (txt m g).data.toList = cmpL (points n f) (points m g)) := cmp_whole n m f g lf uf lg ug hg hg'
  have HCN : Hid (Lib.compareBytes (txt m g).data.toList (txt n f).data.toList = cmpL (points m g) (points n f)) := cmp_whole m n g f lg ug lf uf hg' hg
  rw [hg] at ha
  simp only [hg'] at hb
  have e0 : errOf true = 0 := rfl
  rw [e0] at ha
  simp only [e0] at hb
  clear hg hg' e0
  generalize points n f = x at *
  generalize points m g = y at *
  go_enter Tryd.func8, Tryd.ntmps8
  go_wp2_with fail
  refine ha.mono ?_
  rintro e w1 ⟨r, rfl, hi1, hb1⟩
  have hbb := hb w1 hb1
  have hi1 := hi1 (by simp)
  clear ha hb
  go_wp2_with fail
  refine hbb.mono ?_
  rintro e w2 ⟨r2, rfl, hi2, hb2⟩
  have hi2 := hi2 (by simp)
  have hi1 := hi1.below hb2
  have hb2 : Below w.heap.size w w2 := hb1.trans (hb2.mono hb1.size)
  have hz2 := hb2.size
  clear hbb hb1
  obtain ⟨a1, cap1, e1, m1⟩ := hi1.len
  obtain ⟨a2, cap2, e2, m2⟩ := hi2.len
  subst e1 e2
  unfold maxLen at m1 m2
  go_wp2_with fail
  go_loopw [9, 10] (fun t i wr => OrRel x y w2 t i wr) (fun _ i _ => (max x.length y.length + 1) - (intOf i).toNat)
  case atStart => exact ⟨0, 0, rfl, rfl, .inl ⟨rfl, Nat.zero_le _, Nat.zero_le _, rfl⟩, 0, rfl⟩
  case round =>
    obtain ⟨j, c, rfl, rfl, hr, q, rfl⟩ := hrel
    by_cases hc : c = 0
    · subst hc
      obtain ⟨_, hjx, hjy, hcm⟩ | ⟨h, _⟩ := hr
      · by_cases hx : j < x.length
        · obtain ⟨bx, ox, cx, evx, _, hcx⟩ : ∃ b off cap, (Value.slice a1 x.length cap1) = .slice (some ⟨b, off, none⟩) x.length cap ∧ x.length ≤ maxLen ∧ ∀ i, i < x.length → w2.cell? ⟨b, off + i, none⟩ = some (.int .i64 (x.getD i 0)) := by
            rcases hi1 with ⟨e1, _⟩ | h
            · rw [e1] at hx; exact absurd hx (by simp)
            · exact h
          injection evx with eax _ ecx
          subst eax ecx
          have kx := hcx j hx
          have hxI : (j : Int) < (x.length : Int) := by omega
          have hxE : ((j : Int) == (x.length : Int)) = false := by simp; omega
          by_cases hy : j < y.length
          · obtain ⟨bq, oy, cy, evy, _, hcy⟩ : ∃ b off cap, (Value.slice a2 y.length cap2) = .slice (some ⟨b, off, none⟩) y.length cap ∧ y.length ≤ maxLen ∧ ∀ i, i < y.length → w2.cell? ⟨b, off + i, none⟩ = some (.int .i64 (y.getD i 0)) := by
              rcases hi2 with ⟨e1, _⟩ | h
              · rw [e1] at hy; exact absurd hy (by simp)
              · exact h
            injection evy with eay _ ecy
            subst eay ecy
            have ky := hcy j hy
            have hyI : (j : Int) < (y.length : Int) := by omega
            have hyE : ((j : Int) == (y.length : Int)) = false := by simp; omega
            have hd := cmpL_drop x y j hx hy
            rw [hcm] at hd
            have HNX : ∀ c' : Int, ((c' = 0 ∧ cmpL (x.drop (j + 1)) (y.drop (j + 1)) = cmpL x y) ∨ (c' ≠ 0 ∧ c' = cmpL x y)) → ∀ q, OrRel x y w2 (.int .i64 c') (.int .i64 ((j : Int) + 1)) (w2.drewN q) := by
              intro c' h' q
              refine ⟨j + 1, c', rfl, by go_num, ?_, q, rfl⟩
              rcases h' with ⟨a, b⟩ | h'
              · exact .inl ⟨a, by omega, by omega, b⟩
              · exact .inr h'
            have HM : Hid (j < max x.length y.length) := by show j < _; omega
            generalize x.getD j 0 = u at *
            generalize y.getD j 0 = v at *
            by_cases h1 : u < v
            · rw [if_pos h1] at hd
              have HR := HNX (-1) (.inr ⟨by decide, hd.symm⟩)
              have HR : Hid (∀ q, OrRel x y w2 (.int .i64 (-1)) (.int .i64 ((j : Int) + 1)) (w2.drewN q)) := HR
              have hlt : decide (u < v) = true := by simpa using h1
              clear HNX hd hcm hcx hcy hi1 hi2
              go_wp2_with fail
              go_quiet (fail)
              go_wp2
              go_roundw
              case rel => first | exact HR.out _ | (rw [World.drewN_drewN]; exact HR.out _)
              case measure => simp [intOf]; have := HM.out; omega
            · rw [if_neg h1] at hd
              have hlt : decide (u < v) = false := by simpa using h1
              by_cases h2 : v < u
              · rw [if_pos h2] at hd
                have HR := HNX 1 (.inr ⟨by decide, hd.symm⟩)
                have HR : Hid (∀ q, OrRel x y w2 (.int .i64 1) (.int .i64 ((j : Int) + 1)) (w2.drewN q)) := HR
                have hlt2 : decide (v < u) = true := by simpa using h2
                clear HNX hd hcm hcx hcy hi1 hi2
                go_wp2_with fail
                go_quiet (fail)
                go_wp2_with fail
                go_quiet (fail)
                go_wp2
                go_roundw
                case rel => first | exact HR.out _ | (rw [World.drewN_drewN]; exact HR.out _)
                case measure => simp [intOf]; have := HM.out; omega
              · rw [if_neg h2] at hd
                have HR := HNX 0 (.inl ⟨rfl, hd.symm⟩)
                have HR : Hid (∀ q, OrRel x y w2 (.int .i64 0) (.int .i64 ((j : Int) + 1)) (w2.drewN q)) := HR
                have hlt2 : decide (v < u) = false := by simpa using h2
                clear HNX hd hcm hcx hcy hi1 hi2
                go_wp2_with fail
                go_quiet (fail)
                go_wp2_with fail
                go_quiet (fail)
                go_wp2
                go_roundw
                case rel => first | exact HR.out _ | (rw [World.drewN_drewN]; exact HR.out _)
                case measure => simp [intOf]; have := HM.out; omega
          · have hye : j = y.length := by omega
            have hd := cmpL_long x y j hx hye
            rw [hcm] at hd
            have HR : Hid (∀ q, OrRel x y w2 (.int .i64 1) (.int .i64 ((j : Int) + 1)) (w2.drewN q)) := fun q => ⟨j + 1, 1, rfl, by go_num, .inr ⟨by decide, hd.symm⟩, q, rfl⟩
            have HM : Hid (j < max x.length y.length) := by show j < _; omega
            have hyE : ((j : Int) == (y.length : Int)) = true := by simp; omega
            have hyI : decide ((j : Int) < (y.length : Int)) = false := by simp; omega
            clear hd hcm hcx hi1 hi2 hye
            go_wp2_with fail
            go_quiet (fail)
            go_wp2_with fail
            go_quiet (fail)
            go_wp2
            go_roundw
            case rel => first | exact HR.out _ | (rw [World.drewN_drewN]; exact HR.out _)
            case measure => simp [intOf]; have := HM.out; omega
        · have hxe : j = x.length := by omega
          have hxE : ((j : Int) == (x.length : Int)) = true := by simp; omega
          have hxI : decide ((j : Int) < (x.length : Int)) = false := by simp; omega
          by_cases hy : j < y.length
          · have hd := cmpL_short x y j hxe hy
            rw [hcm] at hd
            have HR : Hid (∀ q, OrRel x y w2 (.int .i64 (-1)) (.int .i64 ((j : Int) + 1)) (w2.drewN q)) := fun q => ⟨j + 1, -1, rfl, by go_num, .inr ⟨by decide, hd.symm⟩, q, rfl⟩
            have HM : Hid (j < max x.length y.length) := by show j < _; omega
            have hyI : (j : Int) < (y.length : Int) := by omega
            clear hd hcm hi1 hi2 hxe
            go_wp2_with fail
            go_quiet (fail)
            go_wp2
            go_roundw
            case rel => first | exact HR.out _ | (rw [World.drewN_drewN]; exact HR.out _)
            case measure => simp [intOf]; have := HM.out; omega
          · have hye : j = y.length := by omega
            have hyI : decide ((j : Int) < (y.length : Int)) = false := by simp; omega
            have hd := cmpL_both x y j hxe hye
            rw [hcm] at hd
            have ht := order_tail va vb n m f g w w2 x y q hT h0 hRa hRb hb2 HCM.out HCN.out
            rw [hd] at ht
            obtain ⟨hc1, hc2, t1, t2, hh⟩ := ht
            clear hd hcm hi1 hi2 hxe hye
            go_wp2_with fail
            refine t1.mono ?_
            rintro e w' ⟨rfl, rfl⟩
            go_wp2_with fail
            refine t2.mono ?_
            rintro e w' ⟨rfl, rfl⟩
            go_wp2_with fail
            refine hh.mono ?_
            rintro e w9 ⟨rfl, hb9⟩
            go_wp2
            go_ret
            exact ⟨rfl, (below_drewN hb2 q).trans (hb9.mono hz2)⟩
      · exact absurd rfl h
    · obtain ⟨h, _⟩ | ⟨_, hcm⟩ := hr
      · exact absurd h hc
      · have hcb := cmpL_bd x y
        have ht := order_tail va vb n m f g w w2 x y q hT h0 hRa hRb hb2 HCM.out HCN.out
        rw [← hcm] at ht hcb
        obtain ⟨hc1, hc2, t1, t2, hh⟩ := ht
        have hcE : (c == 0) = false := by simpa using hc
        clear hcm hi1 hi2
        go_wp2_with fail
        refine t1.mono ?_
        rintro e w' ⟨rfl, rfl⟩
        go_wp2_with fail
        refine t2.mono ?_
        rintro e w' ⟨rfl, rfl⟩
        go_wp2_with fail
        refine hh.mono ?_
        rintro e w9 ⟨rfl, hb9⟩
        go_wp2
        go_ret
        exact ⟨rfl, (below_drewN hb2 q).trans (hb9.mono hz2)⟩

theorem order_walk (va vb : Value) (n m : Nat) (f g : Nat → Int) (w : World) (hT : Tab w) (h0 : 0 < w.heap.size) (hRa : Row w va n f) (hRb : Row w vb m g) (lf : ∀ i, 0 ≤ f i) (uf : ∀ i, f i < 256) (lg : ∀ i, 0 ≤ g i) (ug : ∀ i, g i < 256)
    (hn : n ≤ 1048576) (hm : m ≤ 1048576) : Calls Tryd.prog 8 #[va, vb] w fun e w' => e = .returned (.bool true) ∧ Below w.heap.size w w' := by
  cases hg : (good n f).2
  · exact order_bad va vb n m f g w hT h0 hRa hRb lf uf lg ug hn hm (.inl hg)
  · cases hg' : (good m g).2
    · exact order_bad va vb n m f g w hT h0 hRa hRb lf uf lg ug hn hm (.inr hg')
    · exact order_ok va vb n m f g w hT h0 hRa hRb lf uf lg ug hn hm hg hg'

theorem order_contract (H : Type) (enc : TypeId × Value → H) (W : World) (base : Nat) (args : Array Value) (ds gs : List (DataW H)) (before : List MemPlace)
    (hval : ∀ (j : Nat) t v, Tryd.f8.params[j]? = some t → args[j]? = some v → Value.okWide Tryd.prog W .any base t v)
    (hW : DataW.Whole enc Tryd.prog Tryd.f8.params.toList Rows.utfOrderSpec.vars false W args.toList ds gs before) (hcond : Rows.uptoSmall H (ds ++ gs) = true)
    (hsz : (DataW.weightsEach Tryd.prog (Tryd.f8.params.toList ++ (Rows.OpenSpec.upto Rows.utfOrderSpec).bare.plain.varTypes Tryd.prog) (ds ++ gs)).all (· ≤ reachBytes) = true) (hL : laidMetH Tryd.prog Rows.utfPairsRow.laid W) :
    Calls Tryd.prog 8 args W fun e W' => ∃ v, e = .returned v ∧ Rows.utfOrderSpec.post enc Tryd.prog Tryd.f8 false true false false W args v W' := by
  have hW' := hW
  obtain ⟨p, q, hA0, hV, rfl, hfz, hnd⟩ := hW
  have hA : DataW.TrodAll enc Tryd.prog W 0 (fun _ => true) true Tryd.f8.params.toList args.toList ds p := hA0
  rw [Tryd.params8] at hA hval hsz
  obtain ⟨v0, vs0, d0, ds0, p0, q0, hargs, rfl, rfl, h0, r0⟩ := trodAll_cons hA
  obtain ⟨v1, vs1, d1, ds1, p1, q1, rfl, rfl, rfl, h1, r1⟩ := trodAll_cons r0
  obtain ⟨rfl, rfl, rfl⟩ := trodAll_nil r1
  obtain rfl : args = #[v0, v1] := by cases args; simp_all
  obtain ⟨rfl, rfl⟩ := trodVars_none hV
  obtain ⟨n0, f0, hR0, lo0, up0, hd0⟩ := open_bytes (hval 0 22 v0 rfl rfl) h0
  have hn0 := reach_bytes hsz (j := 0) rfl rfl hd0
  have lt0 : ∀ x ∈ p0, x.block < W.heap.size := by obtain ⟨m, hm⟩ := h0; exact DataW.trod_lt m _ _ _ hm
  have hu0 := upto_bytes hcond (j := 0) rfl hd0
  obtain ⟨n1, f1, hR1, lo1, up1, hd1⟩ := open_bytes (hval 1 22 v1 rfl rfl) h1
  have hn1 := reach_bytes hsz (j := 1) rfl rfl hd1
  have lt1 : ∀ x ∈ p1, x.block < W.heap.size := by obtain ⟨m, hm⟩ := h1; exact DataW.trod_lt m _ _ _ hm
  have hu1 := upto_bytes hcond (j := 1) rfl hd1
  clear hA0
  have hT := table hL
  refine (order_walk v0 v1 n0 n1 f0 f1 W hT hT.pos hR0 hR1 lo0 up0 lo1 up1 hu0 hu1).mono fun e W' ⟨he, bel⟩ => ?_
  subst he
  exact ⟨_, rfl, _, _, _, [], _, [], hW', trodAll_mk1 (shut_bool Tryd.underlying4 _), (trodAll_cons_mk (Below.trod laidOut (by kernel_rfl) (of_decide_eq_true (by kernel_rfl)) h0 bel lt0) (trodAll_cons_mk (Below.trod laidOut (by kernel_rfl) (of_decide_eq_true (by kernel_rfl)) h1 bel lt1) trodAll_mk0)), rfl, bel.frame _, fun h => by cases h⟩

theorem order_laid_met (os : Os) : laidMet Tryd.prog Rows.utfOrderUptoRow.laid (({ World.holding Tryd.prog os ⟨#[], #[], []⟩ with heap := (World.holding Tryd.prog os ⟨#[], #[], []⟩).heap.modify 0 fun
      | .cells _ t frozen => .cells #[.int .i64 127, .int .i64 2047, .int .i64 65535, .int .i64 1114111] t frozen
      | o => o } : World).forCall (fun _ _ => 0) ⟨#[], #[.slice none 0 0, .slice none 0 0], []⟩).memory :=
  laidMet_of_run' 8 (by kernel_rfl) (by kernel_rfl)
theorem order_reads (os : Os) {H : Type} (enc : TypeId × Value → H) : ∃ places, DataW.whole enc Tryd.prog (({ World.holding Tryd.prog os ⟨#[], #[], []⟩ with heap := (World.holding Tryd.prog os ⟨#[], #[], []⟩).heap.modify 0 fun
      | .cells _ t frozen => .cells #[.int .i64 127, .int .i64 2047, .int .i64 65535, .int .i64 1114111] t frozen
      | o => o } : World).forCall (fun _ _ => 0) ⟨#[], #[.slice none 0 0, .slice none 0 0], []⟩).memory Tryd.f8.params.toList Rows.utfOrderSpec.vars false #[Value.slice none 0 0, Value.slice none 0 0].toList 8 = some ([.nil, .nil], [], places) :=
  ⟨[], by kernel_rfl⟩

set_option maxRecDepth 100000 in
theorem order_lifted (os : Os) (started : os.Started) (H : Type) (enc : TypeId × Value → H) (F : Stop.Interp) :
    ReturnsInHanded {} Tryd.checked os 8 .any ((Rows.OpenSpec.upto Rows.utfOrderSpec).preRow enc Tryd.prog Tryd.f8 Rows.utfOrderUptoRow.domain false Rows.utfOrderUptoRow.laid) (((Rows.OpenSpec.upto Rows.utfOrderSpec).at F).post enc Tryd.prog Tryd.f8 false true false false) := by
  obtain ⟨places, hx⟩ := order_reads os enc
  refine returnsInHanded_of_row (C := Tryd.checked) (s := (Rows.OpenSpec.upto Rows.utfOrderSpec)) own started (by kernel_rfl) Tryd.func8
    (witness_row_at (enc := enc) (C := Tryd.checked) false _ #[.slice none 0 0, .slice none 0 0] rfl (by kernel_rfl) (by kernel_rfl) (by kernel_rfl)
      (OpenSpec.preRow_of_cond 8 hx (by kernel_rfl) (fun k hk => by cases hk; kernel_rfl) (by kernel_rfl) (order_laid_met os))) ?_
  intro W base args ds gs before hval hW _ hcond hsz hL _ _
  exact order_contract H enc W base args ds gs before hval hW (hcond _ rfl) hsz hL

theorem order_said : Rows.UtfOrderUptoSaid :=
  OpenClaim.holds_of_cond 8 Tryd.f8 rfl rfl rfl rfl rfl rfl rfl ⟨rfl, rfl, rfl, rfl, rfl⟩ rfl rfl rfl rfl rfl (by kernel_rfl) Tryd.func8 (by kernel_rfl)
    (of_decide_eq_true (by kernel_rfl)) (by unfold Func.isWrapper; first | (rw [if_pos (by decide +kernel)]; kernel_rfl) | (rw [if_neg (by decide +kernel)]; exact ⟨rfl, rfl⟩))
    (fun os started H enc _ F => by rw [OpenClaim.pre_eq_preRow]; exact order_lifted os started H enc F)

theorem order_plain (f : FuncId) (fn : Func) (hf : Tryd.pinned.checked.prog.funcNamed "caliper/caliperlaw01.UtfOrder" = some f) (hfn : Tryd.pinned.checked.prog.funcs[f]? = some fn) :
    false = Tryd.pinned.checked.prog.looks [] ∧ ∀ (j : Nat) t, fn.params[j]? = some t → Tryd.pinned.checked.prog.wantsStandIn t = false := by
  obtain rfl : f = 8 := Option.some.inj ((show Tryd.prog.funcNamed "caliper/caliperlaw01.UtfOrder" = some 8 by kernel_rfl).symm.trans hf) |>.symm
  obtain rfl : fn = Tryd.f8 := (Option.some.inj (Tryd.func8.symm.trans hfn)).symm
  refine ⟨by kernel_rfl, fun j t ht => ?_⟩
  rw [Tryd.params8] at ht
  have hm := Array.mem_of_getElem? ht
  simp at hm
  subst hm
  exact (show Tryd.prog.wantsStandIn 22 = false by kernel_rfl)

theorem order_card : Rows.UtfOrderUptoCardSaid :=
  Claim7.holds_tied_plain_at .later [] _ _ _ _ order_said (fun _ h => by cases h) (by kernel_rfl) (fun _ h => by cases h) utfOrderUpto_row_tie rfl ⟨rfl, rfl⟩ (by kernel_rfl) rfl order_plain (by kernel_rfl)
#print axioms order_card
end Go.Proofs.YtibkhbmglnlgkaaDoor
