/-
  (*reader).pattern, whatever is open. Conditions: the table of greatest code points holds its four numbers; at most 200 groups are open.
  pointsOf; rx.parsed with its deferred closure; rx.Parse. Conditions: the table of greatest code points holds its four numbers.
-/
import Derived.Test.YtppilokmgdpnnaaGreatDoorJoined36
import Derived.Lib.ConvBytes
import Derived.Defers
import Derived.Recover
namespace Go.Proofs.YtppilokmgdpnnaaGreatDoor
open Go.RowKit
attribute [local go_sem] setCell_drewN alloc_drewN

set_option maxRecDepth 100000 in
set_option maxHeartbeats 3200000 in
theorem pattern_of (pat : List Int → Option (RX × List Int)) (w : World) (rb : Nat) (l : List Int) (g : Int) (hg0 : 0 ≤ g) (hg : g ≤ 200) (hpat : g + 1 ≤ 200 → PatC pat rb (g + 1)) (hnone : ¬ g + 1 ≤ 200 → ∀ l, pat l = none) (hshr : Shr pat) (hT : Tab w) (hrb : ¬ 0 = rb) (h : RD w rb l g) :
    Calls Tryz.prog 27 #[.pointer (some ⟨rb, 0, none⟩)] w (TreeR (patP pat l) rb g w) := by
  obtain ⟨P, hP⟩ : ∃ P, P = TreeR (patP pat l) rb g w := ⟨_, rfl⟩
  rw [← hP]
  have HP := hid_intro hP
  have HT := hid_intro hT
  have HN := hid_intro hrb
  have hrl := h.lt
  have hmem := h.mem
  have hlen := h.len
  have hR0 : RD (w.alloc (.cells #[.int .i64 0, .slice none 0 0, .int .i64 0, .int .i64 0, .bool false, .slice none 0 0] 26)) rb l g := h.below (vb_a (Below.refl _ _) _)
  have hB0 : But (· = rb) w (w.alloc (.cells #[.int .i64 0, .slice none 0 0, .int .i64 0, .int .i64 0, .bool false, .slice none 0 0] 26)) := (But.refl _ _).alloc _
  have k0 : Bk (w.alloc (.cells #[.int .i64 0, .slice none 0 0, .int .i64 0, .int .i64 0, .bool false, .slice none 0 0] 26)) w.heap.size zX := Bk.new _ _ _
  have hT0 : Tab (w.alloc (.cells #[.int .i64 0, .slice none 0 0, .int .i64 0, .int .i64 0, .bool false, .slice none 0 0] 26)) := hT.below (vb_a (Below.refl _ _) _)
  have hz0 : (w.alloc (.cells #[.int .i64 0, .slice none 0 0, .int .i64 0, .int .i64 0, .bool false, .slice none 0 0] 26)).heap.size = w.heap.size + 1 := by simp
  have hnr : ¬ w.heap.size = rb := by omega
  clear hP hT hrb h
  have hrw := fun (l' : List Int) w (hT : Tab w) (h : RD w rb l' g) => rowP_any pat w rb l' g hg0 hg hpat hnone hshr hT HN.out h
  have hr0 := hrw l _ hT0 hR0
  have i124 : ints ⟨#[124]⟩ = [124] := rfl
  clear hmem hpat hnone
  cases e1 : rowP pat l with
  | none =>
    rw [e1] at hr0
    have HE : Hid (patP pat l = none) := hid_intro (by unfold patP; rw [e1])
    clear e1
    go_enter Tryz.func27, Tryz.ntmps27
    go_wp2_with fail
    refine hr0.mono ?_; rintro r w1 ⟨hb1, rfl⟩
    go_wp2_with fail
    refine ⟨rfl, ?_⟩
    rw [HP.out, HE.out]
    exact ⟨hB0.trans hb1, rfl⟩
  | some y =>
    obtain ⟨x, l1⟩ := y
    have hl1 := rowP_len hshr _ _ e1
    simp only at hl1
    rw [e1] at hr0
    have HE0 : Hid (patP pat l = match altG (rowP pat) l1.length [x] l1 with
      | none => none
      | some y => some (together 4 y.1, y.2)) := hid_intro (by unfold patP; rw [e1]; simp only; cases altG (rowP pat) l1.length [x] l1 <;> rfl)
    clear e1
    go_enter Tryz.func27, Tryz.ntmps27
    go_wp2_with fail
    refine hr0.mono ?_; rintro r w1 ⟨hb1, f, rfl, hx1, hr1⟩
    obtain ⟨k_, a1, n1, q1, lo, hi, z, a2, n2, q2, ef⟩ := hx1.lit
    have hcs := xa_cells ef
    rw [ef]
    have hal : Below w1.heap.size w1 (w1.alloc (.cells #[.int .i64 k_, .slice a1 n1 q1, .int .i64 lo, .int .i64 hi, .bool z, .slice a2 n2 q2] 26)) := vb_a (Below.refl _ _) _
    have hsz1 : w.heap.size + 1 ≤ w1.heap.size := by have := hb1.size; simp at this; omega
    have hx1' : XI w1 (· < w.heap.size + 1) x f := hx1.weak (fun b hb => by simp; omega)
    have ho1 : OwnX (w1.alloc (.cells #[.int .i64 k_, .slice a1 n1 q1, .int .i64 lo, .int .i64 hi, .bool z, .slice a2 n2 q2] 26)) (w.heap.size + 1) (.slice (some ⟨w1.heap.size, 0, none⟩) 1 1) [(x, f)] := by
      refine OwnX.lit ?_ hsz1 (hx1'.carry (fun b hb hlt => ⟨hal.block b hlt, ?_⟩))
      · rw [← hcs]; show (w1.heap.push _)[w1.heap.size]? = _; simp
      · rintro (h | h)
        · exact hb h
        · omega
    have HO1 := hid_intro ho1
    have HB1 := hid_intro ((hB0.trans hb1).below hal)
    have HR1 := hid_intro (hr1.below hal)
    have HK1 := hid_intro ((k0.but hb1 hnr).bel hal)
    have HS1 := hid_intro (Nat.le_trans hsz1 hal.size)
    have HL1 := hid_intro (And.intro hl1 hlen)
    clear hr0 hx1 hx1' hb1 hr1 ho1 hcs ef hal hB0 hR0 k0 hsz1 hl1 hlen hT0
    go_wp2_with fail
    go_loopg [3] l1.length (fun m s3 wr => ∃ (n : Nat) (ps : List PX) (l' : List Int), m = l'.length ∧ l'.length ≤ n ∧ Hid (ps.length + l'.length ≤ 4097) ∧ OwnX wr (w.heap.size + 1) s3 ps ∧ Hid (altG (rowP pat) n (ps.map (·.1)) l' = altG (rowP pat) l1.length [x] l1) ∧ But (· = rb) w wr ∧ w.heap.size + 1 ≤ wr.heap.size ∧ RD wr rb l' g ∧ Bk wr w.heap.size zX)
    case atStart => exact ⟨l1.length, [(x, f)], l1, rfl, Nat.le_refl _, by have := HL1.out; show 1 + _ ≤ _; omega, HO1.out, rfl, HB1.out, HS1.out, HR1.out, HK1.out⟩
    case round =>
      clear HB1 HR1 HK1 HL1 HO1 HS1
      obtain ⟨n, ps, l', rfl, hn, HA, hown, HG, hb, hsz, hR, hk⟩ := hrel
      have hpl : ps.length ≤ 4097 := by have := HA.out; omega
      have hxo : ∀ b, b = rb → b < w.heap.size + 1 := fun b hb => by omega
      have ht := take_any wr rb l' g ⟨#[124]⟩ (by decide) hR
      rw [i124] at ht
      have HOW := hid_intro hown
      have HKK := hid_intro hk
      have HTr : Hid (Tab wr) := hid_intro (hb.tab HT.out HN.out)
      clear hown hk hR
      cases s1 : startsW [124] l'
      · have r1 : rest [124] l' = l' := by unfold rest; rw [s1]; rfl
        rw [s1, r1] at ht
        have HE : Hid (patP pat l = some (together 4 (ps.map (·.1)), l')) := hid_intro (by
          rw [HE0.out, ← HG.out]
          cases n with
          | zero => rfl
          | succ n => simp only [altG, s1, Bool.false_eq_true, reduceIte])
        clear HG HA HE0 s1 r1
        go_wp2_with fail
        refine ht.mono ?_; rintro r w2 ⟨rfl, hb2, hr2⟩
        have htg := together_any 4 (I64_of (by omega) (by omega)) _ ps w2 (w.heap.size + 1) (HOW.out.but hb2 hxo) (by omega)
        go_wp2_with fail
        refine htg.mono ?_; rintro r wt ⟨f2, rfl, hxt, hbt⟩
        have kk := ((HKK.out.but hb2 hnr).bel hbt)
        obtain ⟨c0, c1, c2, c3, c4, c5⟩ := kk.c6
        obtain ⟨z0, z1, z2, z3, z4, z5⟩ := kk.z6
        have HBW := hid_intro ((hb.trans hb2).below hbt)
        have HXI := hid_intro hxt
        have HRD := hid_intro (hr2.below hbt)
        obtain ⟨k_, a1, n1, q1, lo, hi, z, a2, n2, q2, ef⟩ := HXI.out.lit
        have HEF := hid_intro ef
        rw [ef]
        clear kk ef
        go_wp2_with fail
        refine bodyPost_ret (v := .agg #[.int .i64 k_, .slice a1 n1 q1, .int .i64 lo, .int .i64 hi, .bool z, .slice a2 n2 q2]) (by simp [results, Tryz.results27, go_sem, c0, c1, c2, c3, c4, c5]) rfl ?_
        rw [HP.out, HE.out]
        refine ⟨?_, f2, by rw [HEF.out], XI.weak (X := fun b => b < w.heap.size + 1) ?_ (fun b hb => by omega), ?_⟩
        · with_reducible repeat (first | exact HBW.out | refine But.set ?_ (Or.inr (Nat.le_refl _)) _)
        · with_reducible repeat (first | exact HXI.out | refine XI.set ?_ (Nat.lt_succ_self _) _)
        · with_reducible repeat (first | exact HRD.out | refine RD.away ?_ hrl _)
      · have r1 : rest [124] l' = l'.drop 1 := by unfold rest; rw [s1]; rfl
        rw [s1, r1] at ht
        have hlp := startsW_len _ _ s1
        obtain ⟨n, rfl⟩ : ∃ n', n = n' + 1 := ⟨n - 1, by simp at hlp; omega⟩
        have hT1 := hrw (l'.drop 1)
        cases e1 : rowP pat (l'.drop 1) with
        | none =>
          rw [e1] at hT1
          have HE : Hid (patP pat l = none) := hid_intro (by rw [HE0.out, ← HG.out]; simp only [altG, s1, e1, reduceIte])
          clear HG HA HE0 e1 s1 r1
          go_wp2_with fail
          refine ht.mono ?_; rintro r w2 ⟨rfl, hb2, hr2⟩
          go_wp2_with fail
          refine (hT1 _ (hb2.tab HTr.out HN.out) hr2).mono ?_; rintro r w3 ⟨hb3, rfl⟩
          go_wp2_with fail
          refine ⟨rfl, ?_⟩
          rw [HP.out, HE.out]
          exact ⟨(hb.trans hb2).trans hb3, rfl⟩
        | some y =>
          obtain ⟨x2, l2⟩ := y
          have hln := rowP_len hshr _ _ e1
          simp only [List.length_drop] at hln
          rw [e1] at hT1
          have HG2 : Hid (altG (rowP pat) n (ps.map (·.1) ++ [x2]) l2 = altG (rowP pat) l1.length [x] l1) := hid_intro (by
            rw [← HG.out]
            conv => rhs; unfold altG
            simp only [s1, e1, reduceIte])
          simp only [List.length_cons, List.length_nil] at hlp
          have HA2 : Hid (ps.length + 1 + l2.length ≤ 4097) := hid_intro (by have := HA.out; omega)
          have HLN : Hid (l2.length < l'.length ∧ l2.length ≤ n) := hid_intro (by omega)
          clear HG HA e1 s1 r1 hln hlp
          go_wp2_with fail
          refine ht.mono ?_; rintro r w2 ⟨rfl, hb2, hr2⟩
          go_wp2_with fail
          refine (hT1 _ (hb2.tab HTr.out HN.out) hr2).mono ?_; rintro r w4 ⟨hb4, f4, rfl, hx4, hr4⟩
          have ho2 := HOW.out.but hb2 hxo
          have ho4 := ho2.but hb4 hxo
          have hlt3 := ho2.lt
          have hx4' : XI w4 (fun b => b < w.heap.size + 1 ∨ u3.ownBlock = some b) x2 f4 := hx4.weak (fun b hb => by
            rcases hb with hb | hb
            · have := hb2.size; omega
            · exact (hlt3 b hb).2)
          obtain ⟨k_, a1, n1, q1, lo, hi, z, a2, n2, q2, ef⟩ := hx4.lit
          have hcs := xa_cells ef
          rw [ef]
          have HO4 := hid_intro ho4
          have HX4 := hid_intro hx4'
          have HB4 := hid_intro ((hb.trans hb2).trans hb4)
          have HR4 := hid_intro hr4
          have HK4 := hid_intro ((HKK.out.but hb2 hnr).but hb4 hnr)
          have HS4 := hid_intro (Nat.le_trans hsz (Nat.le_trans hb2.size hb4.size))
          have HCS := hid_intro hcs
          clear hb2 hb4 ho4 ho2 hlt3 hx4' hx4 hr4 hr2 ef hcs
          go_wp2_with (at_builtin; refine wpList_append_tree rfl _ _ rfl (w.heap.size + 1) _ ps x2 f4 rfl (HO4.out.below (vb_a (Below.refl _ _) _)) ?cB ?cS (HX4.out.kept (vb_a (Below.refl _ _) _)) _ rfl ?cK ?_)
          case cB => have := HS4.out; simp; omega
          case cS => omega
          case cK => rw [← HCS.out]; exact Bk.new _ _ _
          intro v' w5 ho5 hg5
          have hlt := HO4.out.lt
          have hal : Below w4.heap.size w4 (w4.alloc (.cells #[.int .i64 k_, .slice a1 n1 q1, .int .i64 lo, .int .i64 hi, .bool z, .slice a2 n2 q2] 26)) := vb_a (Below.refl _ _) _
          have hb5 : But (· = rb) w w5 := (HB4.out.below hal).grown hg5 (fun b hb => Or.inr (by have := (hlt b hb).1; omega))
          have hr5 : RD w5 rb l2 g := (HR4.out.below hal).carry (fun k hk => hg5.block k (by have := HR4.out.lt; simp; omega) (fun e => by have := (hlt k e.symm).1; omega))
          have hk5 : Bk w5 w.heap.size zX := (HK4.out.al _).grown hg5 (fun e => by have := (hlt _ e).1; omega)
          have hs5 : w.heap.size + 1 ≤ w5.heap.size := Nat.le_trans HS4.out (Nat.le_trans hal.size hg5.size)
          have HXX := hid_intro (And.intro ho5 (And.intro hb5 (And.intro hr5 (And.intro hk5 hs5))))
          clear ho5 hg5 hb5 hr5 hk5 hlt hal hs5
          go_wp2_with fail
          go_roundg l2.length
          case measure => exact HLN.out.1
          case rel => exact ⟨n, ps ++ [(x2, f4)], l2, rfl, HLN.out.2, by have := HA2.out; show (ps ++ [(x2, f4)]).length + _ ≤ _; simp; omega, HXX.out.1, by rw [List.map_append]; exact HG2, HXX.out.2.1, HXX.out.2.2.2.2, HXX.out.2.2.1, HXX.out.2.2.2.1⟩

/-- pattern, however many groups are open. -/
theorem pattern_any (rb : Nat) (hrb : ¬ 0 = rb) : ∀ (d : Nat) (g : Int), g + d = 200 → 0 ≤ g → PatC (patL d) rb g
  | 0, g, hd, h0 => fun w l hT h => pattern_of (fun _ => none) w rb l g h0 (by omega) (fun h => absurd h (by omega)) (fun _ _ => rfl) (fun l x h => by simp at h) hT hrb h
  | d + 1, g, hd, h0 => fun w l hT h => pattern_of (patL d) w rb l g h0 (by omega) (fun _ => pattern_any rb hrb d (g + 1) (by omega) (by omega)) (fun h => absurd (by omega) h) (patL_len d) hT hrb h
end Go.Proofs.YtppilokmgdpnnaaGreatDoor

namespace Go.Proofs.YtppilokmgdpnnaaGreatDoor
open Go.RowKit
attribute [local go_sem] setCell_drewN alloc_drewN

theorem bl_bytes (w : World) (s : ByteArray) : Below w.heap.size w (Lib.bytesWorld w 5 s) :=
  ⟨rfl, rfl, rfl, by rw [Lib.bytesWorld_size]; omega, fun k hk => Lib.bytesWorld_at_old w _ s k hk⟩
theorem byt_str (w : World) (s : ByteArray) (hs : s.size ≤ maxLen) : Byt (Lib.bytesWorld w 5 s) (.slice (some ⟨w.heap.size, 0, none⟩) s.size (grownCap w s.size 0 5)) s.data.toList := by
  unfold Byt
  have e : s.data.toList.length = s.size := Array.length_toList
  rw [e]
  refine .inr ⟨w.heap.size, 0, _, rfl, grownCap_ge _ _ _ _, grownCap_le_maxLen w s.size 0 _ hs, ⟨fun i hi => ?_, bx_lo _, bx_hi _⟩⟩
  rw [Nat.zero_add, Lib.bytesWorld_cell w _ s i hi]
  simp [bx, List.getD_eq_getElem?_getD]
theorem conv_str (w : World) (s : ByteArray) : (convert 9 40 (.string s)).run Tryz.prog w = .ok (.slice (some ⟨w.heap.size, 0, none⟩) s.size (grownCap w s.size 0 5)) (Lib.bytesWorld w 5 s) :=
  Lib.run_convert_string_bytes w _ _ _ s Tryz.underlying9 Tryz.underlying40 Tryz.underlying5
theorem pointsF_len (len : Nat) (f : Nat → Int) : ∀ k p, (pointsF len f k p).length ≤ k
  | 0, _ => by simp [pointsF]
  | k + 1, p => by
    unfold pointsF
    split
    · simp
    · have := pointsF_len len f k (p + (stepF (len - p) fun i => f (p + i)).1)
      simp only [List.length_cons]; omega
theorem pointsF_bd (len : Nat) (f : Nat → Int) (lo : ∀ i, 0 ≤ f i) : ∀ k p, (goodF len f k p).2 = true → ∀ c ∈ pointsF len f k p, 0 ≤ c ∧ c ≤ 1114111
  | 0, _, _ => by simp [pointsF]
  | k + 1, p, hg => by
    unfold pointsF
    unfold goodF at hg
    split
    · intro c hc; simp at hc
    · rename_i hlt
      rw [if_neg hlt] at hg
      by_cases e2 : (stepF (len - p) fun i => f (p + i)).2 = true
      · rw [if_pos e2] at hg
        intro c hc
        rcases List.mem_cons.1 hc with rfl | hc
        · exact ptF_bd (len - p) (fun i => f (p + i)) _ (fun i => lo _) (Prod.ext rfl e2)
        · exact pointsF_bd len f lo k _ hg c hc
      · rw [if_neg e2] at hg; simp at hg
/-- A text's code points. -/
def ptsS (s : ByteArray) : List Int := points s.data.toList.length (bx s.data.toList)
def goodS (s : ByteArray) : Bool := (good s.data.toList.length (bx s.data.toList)).2
def okS (s : ByteArray) : Bool := decide (s.size ≤ 4096) && goodS s
theorem ptsS_len (s : ByteArray) : (ptsS s).length ≤ s.size := by
  have := pointsF_len s.data.toList.length (bx s.data.toList) s.data.toList.length 0
  have e : s.data.toList.length = s.size := Array.length_toList
  unfold ptsS points; omega
theorem ptsS_bd (s : ByteArray) (h : goodS s = true) : ∀ c ∈ ptsS s, 0 ≤ c ∧ c ≤ 1114111 := pointsF_bd _ _ (bx_lo _) _ _ h
/-- What a text is read as. -/
def parseS (s : ByteArray) : Option RX := if okS s = true then parseL (ptsS s) else none

set_option maxRecDepth 100000 in
set_option maxHeartbeats 1600000 in
theorem pointsOf_ok (s : ByteArray) (w : World) (hT : Tab w) (h : okS s = true) :
    Calls Tryz.prog 26 #[.string s] w fun r w' => ∃ v, r = .returned v ∧ w'.ownsRow w.heap.size 3 1 v (ptsS s).length ((ptsS s).map (Value.int .i64)) ∧ Below w.heap.size w w' := by
  simp only [okS, Bool.and_eq_true, decide_eq_true_eq] at h
  obtain ⟨h1, h2⟩ := h
  have hz : ¬ (4096 : Int) < (s.size : Int) := by omega
  have hcv : ∀ w', (convert 9 40 (.string s)).run Tryz.prog w' = _ := fun w' => conv_str w' s
  have hsl : s.data.toList.length ≤ 17592186044416 := by have e : s.data.toList.length = s.size := Array.length_toList
                                                         omega
  have hp := points_some _ _ _ (Lib.bytesWorld w 5 s) (hT.below (bl_bytes w s)) (byt_str w s (by unfold maxLen; omega)) (bx_lo _) (bx_hi _) hsl h2
  have hbb := bl_bytes w s
  have HB := hid_intro hbb
  clear h1 h2 hT hsl hbb
  go_enter Tryz.func26, Tryz.ntmps26
  go_wp2_with fail
  refine hp.mono ?_; rintro r w1 ⟨v, rfl, ho, hb1⟩
  go_wp2_with fail
  go_ret
  exact ⟨v, rfl, own_mono ho HB.out.size, vb_t HB.out hb1⟩

set_option maxRecDepth 100000 in
set_option maxHeartbeats 1600000 in
theorem pointsOf_no (s : ByteArray) (w : World) (hT : Tab w) (hs : s.size ≤ 1099511627776) (h : okS s = false) :
    Calls Tryz.prog 26 #[.string s] w fun r w' => r = stopX ∧ Below w.heap.size w w' := by
  by_cases h1 : s.size ≤ 4096
  · have h2 : goodS s = false := by simpa [okS, h1] using h
    have hz : ¬ (4096 : Int) < (s.size : Int) := by omega
    have hcv : ∀ w', (convert 9 40 (.string s)).run Tryz.prog w' = _ := fun w' => conv_str w' s
    have hp := points_none _ _ _ (Lib.bytesWorld w 5 s) (hT.below (bl_bytes w s)) (byt_str w s (by unfold maxLen; omega)) h2
    have HB := hid_intro (bl_bytes w s)
    clear h1 h2 hT h hs
    go_enter Tryz.func26, Tryz.ntmps26
    go_wp2_with fail
    refine hp.mono ?_; rintro r w1 ⟨rfl, q, rfl⟩
    go_wp2_with fail
    exact ⟨rfl, rfl, vb_n HB.out q⟩
  · have hz : (4096 : Int) < (s.size : Int) := by omega
    clear h hT
    go_enter Tryz.func26, Tryz.ntmps26
    go_wp2_with fail
    exact ⟨rfl, rfl, Below.refl _ _⟩

/-- A reader of its own. -/
theorem RD.new {w w1 : World} {v : Value} {l : List Int} (ho : w1.ownsRow w.heap.size 3 1 v l.length (l.map (Value.int .i64))) (hl : l.length ≤ 4096) (hb : ∀ c ∈ l, 0 ≤ c ∧ c ≤ 1114111) :
    RD (w1.alloc (.cells #[v, .int .i64 0, .int .i64 0] 60)) w1.heap.size l 0 := by
  have k := Bk.new w1 #[v, .int .i64 0, .int .i64 0] 60
  rcases ho.2 with ⟨rfl, hn⟩ | ⟨g, cap, cur, rfl, hB, hg, hc, hm, hs, ht⟩
  · have : l = [] := List.eq_nil_of_length_eq_zero hn
    subst this
    exact ⟨none, 0, 0, 0, k.cell 0, k.cell 1, k.cell 2, fun o => k.frz o, rfl, Nat.le_refl _, by omega, hb, ⟨by omega, by omega⟩, Or.inl rfl⟩
  · refine ⟨some ⟨g, 0, none⟩, l.length, cap, 0, k.cell 0, k.cell 1, k.cell 2, fun o => k.frz o, by omega, hc, hl, hb, ⟨by omega, by omega⟩, Or.inr ⟨g, 0, rfl, (ho.lt g rfl).2, fun i hi => ?_⟩⟩
    have hgl := (ho.lt g rfl).2
    rw [(vb_a (Below.refl _ _) _ : Below w1.heap.size w1 (w1.alloc _)).cell (p := ⟨g, 0 + (0 + i), none⟩) hgl]
    rw [Nat.zero_add, Nat.zero_add, ho.cellAt i (by omega)]
    simp only [List.getElem?_map, List.getElem?_eq_getElem hi, Option.map_some, pk, List.getD_eq_getElem?_getD, Option.getD_some]

theorem assert_errno (n : Int) (w : World) : (Instr.typeAssert (.iface 27 (.int .i64 n)) 20 27 false).run Tryz.prog w = .ok (.int .i64 n) w := by
  simp [Instr.typeAssert, run_underlying Tryz.underlying27, go_sem, Result.andThen]
set_option maxRecDepth 100000 in
set_option maxHeartbeats 1600000 in
theorem catch_panicking (pb eb : Nat) (hpe : pb ≠ eb) (n : Int) (older : List PanicEntry) (w : World) (x0 x1 x2 x3 x4 x5 : Value) (hk : Bk w pb #[x0, x1, x2, x3, x4, x5]) (y : Value) (he : Bk w eb #[y]) :
    CallsD Tryz.prog 25 #[.pointer (some ⟨pb, 0, none⟩), .pointer (some ⟨eb, 0, none⟩)] (.panicking ({ v := .iface 27 (.int .i64 n), recovered := false } :: older)) w fun e u' w' =>
      e = .returned (.tuple #[]) ∧ u' = .panicking ({ v := .iface 27 (.int .i64 n), recovered := true } :: older) ∧ Bk w' pb zX ∧ Bk w' eb #[.int .i64 n] ∧ But (fun b => b = pb ∨ b = eb) w w' := by
  refine callsD_of_wpS Tryz.func25 rfl fun c₀ cs hu => ?_
  obtain ⟨c0, c1, c2, c3, c4, c5⟩ := hk.c6
  have d0 : w.cell? ⟨eb, 0, none⟩ = some y := he.cell 0
  obtain ⟨z0, z1, z2, z3, z4, z5⟩ := hk.z6
  have y0 := he.frz 0
  apply wpS_seq
  apply wpS_region
  simp [wpOpsS, go_sem, recoverD, hu, Tryz.ntmps25, Exit.thenS]
  apply wpS_seq
  apply wpS_region
  simp [wpOpsS, go_sem, Exit.thenS]
  refine wpS_cond (t := true) (by simp [Act.eval, Array.replicate]) ?_
  simp only [if_true]
  refine wpS_of_wp ?_
  have e : (#[Value.pointer (some ⟨pb, 0, none⟩), .pointer (some ⟨eb, 0, none⟩)] ++ ((((Array.replicate 7 undef).setIfInBounds 1 (.iface 27 (.int .i64 n))).setIfInBounds 0 (.iface 27 (.int .i64 n))).setIfInBounds 2 (.iface 27 (.int .i64 n))).setIfInBounds 3 (.bool true)) = #[Value.pointer (some ⟨pb, 0, none⟩), .pointer (some ⟨eb, 0, none⟩), .iface 27 (.int .i64 n), .iface 27 (.int .i64 n), .iface 27 (.int .i64 n), .bool true, undef, undef, undef] := rfl
  rw [e]
  clear e
  have hpe2 := hpe.symm
  have hta := fun w => assert_errno n w
  go_region
  all_goals
    have k1 : Bk (w.setCell ⟨pb, 0, none⟩ (.int .i64 0)) pb _ := hk.set 0 _ rfl
    have k2 := k1.set 1 (.slice none 0 0) rfl
    have k3 := k2.set 2 (.int .i64 0) rfl
    have k4 := k3.set 3 (.int .i64 0) rfl
    have k5 := k4.set 4 (.bool false) rfl
    have k6 := k5.set 5 (.slice none 0 0) rfl
    have k7 := (k6.away (a := ⟨eb, 0, none⟩) (v := .int .i64 n) hpe).dw
    have m1 := (((((((he.away (a := ⟨pb, 0, none⟩) (v := .int .i64 0) hpe2).away (a := ⟨pb, 1, none⟩) (v := .slice none 0 0) hpe2).away (a := ⟨pb, 2, none⟩) (v := .int .i64 0) hpe2).away (a := ⟨pb, 3, none⟩) (v := .int .i64 0) hpe2).away (a := ⟨pb, 4, none⟩) (v := .bool false) hpe2).away (a := ⟨pb, 5, none⟩) (v := .slice none 0 0) hpe2).set 0 (.int .i64 n) rfl).dw
    have hbt : But (fun b => b = pb ∨ b = eb) w _ := ((((((((But.refl _ w).set (p := ⟨pb, 0, none⟩) (Or.inl (Or.inl rfl)) (.int .i64 0)).set (p := ⟨pb, 1, none⟩) (Or.inl (Or.inl rfl)) (.slice none 0 0)).set (p := ⟨pb, 2, none⟩) (Or.inl (Or.inl rfl)) (.int .i64 0)).set (p := ⟨pb, 3, none⟩) (Or.inl (Or.inl rfl)) (.int .i64 0)).set (p := ⟨pb, 4, none⟩) (Or.inl (Or.inl rfl)) (.bool false)).set (p := ⟨pb, 5, none⟩) (Or.inl (Or.inl rfl)) (.slice none 0 0)).set (p := ⟨eb, 0, none⟩) (Or.inl (Or.inr rfl)) (.int .i64 n)).drew
    clear c0 c1 c2 c3 c4 c5 d0 z0 z1 z2 z3 z4 z5 y0 hta k1 k2 k3 k4 k5 k6 hk he
    refine ⟨rfl, _, rfl, .tuple #[], ?_, rfl, rfl, k7, m1, hbt⟩
    simp [results, Tryz.results25, go_sem]
theorem catch_idle (pb eb : Nat) (w : World) :
    CallsD Tryz.prog 25 #[.pointer (some ⟨pb, 0, none⟩), .pointer (some ⟨eb, 0, none⟩)] .returning w fun e u' w' => e = .returned (.tuple #[]) ∧ u' = .returning ∧ w' = w := by
  refine callsD_of_wpS Tryz.func25 rfl fun c₀ cs hu => ?_
  apply wpS_seq
  apply wpS_region
  simp [wpOpsS, go_sem, recoverD, hu, Tryz.ntmps25, Exit.thenS]
  apply wpS_seq
  apply wpS_region
  simp [wpOpsS, go_sem, Exit.thenS]
  refine wpS_cond (t := false) (by simp [Act.eval, Array.replicate]) ?_
  simp only [Bool.false_eq_true, if_false]
  refine wpS_of_wp (wp_skip ?_)
  cases c₀
  simp_all [bodyPostS, results, Tryz.results25]
end Go.Proofs.YtppilokmgdpnnaaGreatDoor
