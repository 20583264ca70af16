/-
  What rx.countText and rx.pointText answer: the text of a count, and of one number. Conditions: the library's tables and the table of greatest code points as the program lays them; the number is at most 1114111.
  The library's strings.Builder at this program: what WriteByte and WriteString answer. Conditions: each states its own.
-/
import Derived.Test.YtppilokmgdpnnaaGreatDoorJoined8
import Derived.Test.YtppilokmgdpnnaaGreatDoorJoined22
import Derived.Test.YtppilokmgdpnnaaGreatDoorJoined13
import Derived.Test.YtppilokmgdpnnaaGreatDoorJoined12
import Derived.Test.YtppilokmgdpnnaaGreatDoorProg
import Derived.Shelf.Strings.BuilderK
namespace Go.Proofs.YtppilokmgdpnnaaGreatDoor
open Go.RowKit Go.Sort
attribute [local go_sem] setCell_drewN alloc_drewN

/-- The tables that a text is written with. -/
structure TX (w : World) : Prop where
  tab : Tab w
  pow : PowT w
  d64 : w.cell? ⟨4, 15, none⟩ = some (.int .u8 4)
  ml : ∃ m, w.cell? ⟨1, 0, none⟩ = some (.int .i64 m)
theorem bcell {w w' : World} {p : Addr} {v : Value} (h : w.cell? p = some v) (hb : Below w.heap.size w w') : w'.cell? p = some v := by
  rw [hb.cell (World.block_lt_of_cell? w _ h), h]
theorem TX.below {w w' : World} (h : TX w) (hb : Below w.heap.size w w') : TX w' :=
  ⟨⟨bcell h.tab.t0 hb, bcell h.tab.t1 hb, bcell h.tab.t2 hb, bcell h.tab.t3 hb⟩, pow_below h.pow hb, bcell h.d64 hb, by obtain ⟨m, hm⟩ := h.ml; exact ⟨m, bcell hm hb⟩⟩
theorem i64_and15x (x : Nat) (h : x < 65536) : bits .and .i64 (x : Int) 15 = ((x % 16 : Nat) : Int) := by
  show IntKind.i64.wrap ((BitVec.ofInt 64 (x : Int) &&& BitVec.ofInt 64 ((15 : Nat) : Int)).toNat : Int) = _
  rw [BitVec.toNat_and, ofInt_u64 x (by omega), ofInt_u64 15 (by omega), show (15 : Nat) = 2 ^ 4 - 1 from rfl, Nat.and_two_pow_sub_one_eq_mod]
  rw [Lib.wrap_i64_small _ (by omega)]
def encL (p : Nat) : List UInt8 := bs (encN p) (encF p)
def pointL (p : Nat) (sp : List UInt8) : List UInt8 :=
  if 9 ≤ p ∧ p ≤ 13 then [92, [116, 110, 118, 102, 114].getD (p - 9) 0]
  else if p < 32 ∨ p = 127 then 92 :: 120 :: (hexL (p / 16) ++ hexL (p % 16))
  else if ptB p = false then 92 :: 117 :: 123 :: (hexL p ++ [125])
  else if Lib.contains sp (encL p) then 92 :: encL p else encL p
abbrev PoinT (p : Nat) (sp : ByteArray) (w : World) : Prop := Calls Tryz.prog 64 #[.int .i64 (p : Int), .string sp] w fun r w' => r = .returned (.string (bsx (pointL p sp.data.toList))) ∧ Below w.heap.size w w'
theorem hexL_sz (u : Nat) (h : u < 65536) : (hexL u).length ≤ 4 := by
  unfold hexL
  split
  · simp
  · unfold hexL
    split
    · simp
    · unfold hexL
      split
      · simp
      · unfold hexL
        rw [dif_pos (by omega)]
        simp
set_option maxHeartbeats 800000 in
theorem point_esc (p : Nat) (sp : ByteArray) (w : World) (h9 : 9 ≤ p) (h13 : p ≤ 13) : PoinT p sp w := by
  unfold PoinT
  have hl : pointL p sp.data.toList = [92, [116, 110, 118, 102, 114].getD (p - 9) 0] := by unfold pointL; rw [if_pos ⟨h9, h13⟩]
  rw [hl]
  obtain rfl | rfl | rfl | rfl | rfl : p = 9 ∨ p = 10 ∨ p = 11 ∨ p = 12 ∨ p = 13 := by omega
  all_goals clear hl h9 h13
  all_goals go_enter Tryz.func64, Tryz.ntmps64
  all_goals go_wp2_with fail
  all_goals go_ret
  all_goals exact ⟨rfl, Below.refl _ _⟩
theorem hex2 (a b : List UInt8) : (⟨#[92, 120]⟩ : ByteArray) ++ ⟨a.toArray⟩ ++ ⟨b.toArray⟩ = bsx (92 :: 120 :: (a ++ b)) := by
  rw [show (⟨#[92, 120]⟩ : ByteArray) = bsx [92, 120] from rfl, show (⟨a.toArray⟩ : ByteArray) = bsx a from rfl, show (⟨b.toArray⟩ : ByteArray) = bsx b from rfl, bsx_app, bsx_app]
  rfl
theorem hexu (a : List UInt8) : (⟨#[92, 117, 123]⟩ : ByteArray) ++ ⟨a.toArray⟩ ++ ⟨#[125]⟩ = bsx (92 :: 117 :: 123 :: (a ++ [125])) := by
  rw [show (⟨#[92, 117, 123]⟩ : ByteArray) = bsx [92, 117, 123] from rfl, show (⟨a.toArray⟩ : ByteArray) = bsx a from rfl, show (⟨#[125]⟩ : ByteArray) = bsx [125] from rfl, bsx_app, bsx_app]
  rfl
theorem ba_size (a : List UInt8) : (⟨a.toArray⟩ : ByteArray).size = a.length := by simp [ByteArray.size]
set_option maxRecDepth 100000 in
set_option maxHeartbeats 800000 in
theorem point_hexa (p : Nat) (sp : ByteArray) (w : World) (hX : TX w) (h9 : ¬ (9 ≤ p ∧ p ≤ 13)) (h13 : p < 32 ∨ p = 127) (hq : p < 9) : PoinT p sp w := by
  unfold PoinT
  have HL : Hid (pointL p sp.data.toList = 92 :: 120 :: (hexL (p / 16) ++ hexL (p % 16))) := hid_intro (by unfold pointL; rw [if_neg h9, if_pos h13])
  obtain ⟨P, hP⟩ : ∃ P : Ending → World → Prop, P = fun r w' => r = .returned (.string (bsx (pointL p sp.data.toList))) ∧ Below w.heap.size w w' := ⟨_, rfl⟩
  rw [← hP]
  have HP := hid_intro hP
  have HI := hid_intro (fun u (hu : u < 65536) w' (hb : Below w.heap.size w w') => hexText_any u hu w' (hX.below hb).d64)
  have HB : Hid (p / 16 < 65536 ∧ p % 16 < 65536) := hid_intro (by omega)
  have s1 : (hexL (p / 16)).length ≤ 4 := hexL_sz _ (by omega)
  have s2 : (hexL (p % 16)).length ≤ 4 := hexL_sz _ (by omega)
  have ha := i64_and15x p (by omega)
  have hsh : ∀ W, (Op.shift .shr .i64 (p : Int) .u64 4).run Tryz.prog W = .ok (.int .i64 ((p / 16 : Nat) : Int)) W := fun W => by
    rw [shift_shr .i64 .u64 (p : Int) 4 (by omega) (by decide)]; rfl
  have k1 : ¬ 9 ≤ (p : Int) := by omega
  have k3 : (p : Int) < 32 := by omega
  clear hP hX h9 h13 hq
  go_enter Tryz.func64, Tryz.ntmps64
  go_wp2_with fail
  refine (HI.out _ HB.out.1 w (Below.refl _ _)).mono ?_; rintro r w1 ⟨rfl, hb1⟩
  go_wp2_with fail
  refine (HI.out _ HB.out.2 w1 hb1).mono ?_; rintro r w2 ⟨rfl, hb2⟩
  go_wp2_with fail
  rw [HP.out, HL.out]
  exact ⟨by rw [hex2]; rfl, hb1.trans (hb2.mono hb1.size)⟩
set_option maxRecDepth 100000 in
set_option maxHeartbeats 800000 in
theorem point_hexb (p : Nat) (sp : ByteArray) (w : World) (hX : TX w) (h9 : ¬ (9 ≤ p ∧ p ≤ 13)) (h13 : p < 32 ∨ p = 127) (hq : 13 < p ∧ p < 32) : PoinT p sp w := by
  unfold PoinT
  have HL : Hid (pointL p sp.data.toList = 92 :: 120 :: (hexL (p / 16) ++ hexL (p % 16))) := hid_intro (by unfold pointL; rw [if_neg h9, if_pos h13])
  obtain ⟨P, hP⟩ : ∃ P : Ending → World → Prop, P = fun r w' => r = .returned (.string (bsx (pointL p sp.data.toList))) ∧ Below w.heap.size w w' := ⟨_, rfl⟩
  rw [← hP]
  have HP := hid_intro hP
  have HI := hid_intro (fun u (hu : u < 65536) w' (hb : Below w.heap.size w w') => hexText_any u hu w' (hX.below hb).d64)
  have HB : Hid (p / 16 < 65536 ∧ p % 16 < 65536) := hid_intro (by omega)
  have s1 : (hexL (p / 16)).length ≤ 4 := hexL_sz _ (by omega)
  have s2 : (hexL (p % 16)).length ≤ 4 := hexL_sz _ (by omega)
  have ha := i64_and15x p (by omega)
  have hsh : ∀ W, (Op.shift .shr .i64 (p : Int) .u64 4).run Tryz.prog W = .ok (.int .i64 ((p / 16 : Nat) : Int)) W := fun W => by
    rw [shift_shr .i64 .u64 (p : Int) 4 (by omega) (by decide)]; rfl
  have k1 : 9 ≤ (p : Int) := by omega
  have k2 : ¬ (p : Int) ≤ 13 := by omega
  have k3 : (p : Int) < 32 := by omega
  clear hP hX h9 h13 hq
  go_enter Tryz.func64, Tryz.ntmps64
  go_wp2_with fail
  refine (HI.out _ HB.out.1 w (Below.refl _ _)).mono ?_; rintro r w1 ⟨rfl, hb1⟩
  go_wp2_with fail
  refine (HI.out _ HB.out.2 w1 hb1).mono ?_; rintro r w2 ⟨rfl, hb2⟩
  go_wp2_with fail
  rw [HP.out, HL.out]
  exact ⟨by rw [hex2]; rfl, hb1.trans (hb2.mono hb1.size)⟩
set_option maxRecDepth 100000 in
set_option maxHeartbeats 800000 in
theorem point_hexc (p : Nat) (sp : ByteArray) (w : World) (hX : TX w) (h9 : ¬ (9 ≤ p ∧ p ≤ 13)) (h13 : p < 32 ∨ p = 127) (hq : p = 127) : PoinT p sp w := by
  unfold PoinT
  have HL : Hid (pointL p sp.data.toList = 92 :: 120 :: (hexL (p / 16) ++ hexL (p % 16))) := hid_intro (by unfold pointL; rw [if_neg h9, if_pos h13])
  obtain ⟨P, hP⟩ : ∃ P : Ending → World → Prop, P = fun r w' => r = .returned (.string (bsx (pointL p sp.data.toList))) ∧ Below w.heap.size w w' := ⟨_, rfl⟩
  rw [← hP]
  have HP := hid_intro hP
  have HI := hid_intro (fun u (hu : u < 65536) w' (hb : Below w.heap.size w w') => hexText_any u hu w' (hX.below hb).d64)
  have HB : Hid (p / 16 < 65536 ∧ p % 16 < 65536) := hid_intro (by omega)
  have s1 : (hexL (p / 16)).length ≤ 4 := hexL_sz _ (by omega)
  have s2 : (hexL (p % 16)).length ≤ 4 := hexL_sz _ (by omega)
  have ha := i64_and15x p (by omega)
  have hsh : ∀ W, (Op.shift .shr .i64 (p : Int) .u64 4).run Tryz.prog W = .ok (.int .i64 ((p / 16 : Nat) : Int)) W := fun W => by
    rw [shift_shr .i64 .u64 (p : Int) 4 (by omega) (by decide)]; rfl
  have k1 : 9 ≤ (p : Int) := by omega
  have k2 : ¬ (p : Int) ≤ 13 := by omega
  have k3 : ¬ (p : Int) < 32 := by omega
  have k4 : ((p : Int) == 127) = true := by simp; omega
  clear hP hX h9 h13 hq
  go_enter Tryz.func64, Tryz.ntmps64
  go_wp2_with fail
  refine (HI.out _ HB.out.1 w (Below.refl _ _)).mono ?_; rintro r w1 ⟨rfl, hb1⟩
  go_wp2_with fail
  refine (HI.out _ HB.out.2 w1 hb1).mono ?_; rintro r w2 ⟨rfl, hb2⟩
  go_wp2_with fail
  rw [HP.out, HL.out]
  exact ⟨by rw [hex2]; rfl, hb1.trans (hb2.mono hb1.size)⟩
set_option maxRecDepth 100000 in
set_option maxHeartbeats 800000 in
theorem point_sur (p : Nat) (sp : ByteArray) (w : World) (hX : TX w) (h9 : 127 < p) (h13 : p < 65536) (hp : ptB p = false) : PoinT p sp w := by
  unfold PoinT
  have HL : Hid (pointL p sp.data.toList = 92 :: 117 :: 123 :: (hexL p ++ [125])) := hid_intro (by unfold pointL; rw [if_neg (by omega), if_neg (by omega), if_pos hp])
  obtain ⟨P, hP⟩ : ∃ P : Ending → World → Prop, P = fun r w' => r = .returned (.string (bsx (pointL p sp.data.toList))) ∧ Below w.heap.size w w' := ⟨_, rfl⟩
  rw [← hP]
  have HP := hid_intro hP
  have HI := hid_intro (fun w' (hb : Below w.heap.size w w') => hexText_any p h13 w' (hX.below hb).d64)
  have hpt := isPt_any p w hX.tab
  rw [isPt_ptB, hp] at hpt
  have s1 : (hexL p).length ≤ 4 := hexL_sz _ h13
  have k1 : 9 ≤ (p : Int) := by omega
  have k2 : ¬ (p : Int) ≤ 13 := by omega
  have k3 : ¬ (p : Int) < 32 := by omega
  have k4 : ((p : Int) == 127) = false := by simp; omega
  clear hP hX h9 h13 hp
  go_enter Tryz.func64, Tryz.ntmps64
  go_wp2_with fail
  refine hpt.mono ?_; rintro r w1 ⟨rfl, hb1⟩
  go_wp2_with fail
  refine (HI.out w1 hb1).mono ?_; rintro r w2 ⟨rfl, hb2⟩
  go_wp2_with fail
  rw [HP.out, HL.out]
  exact ⟨by rw [hexu]; rfl, hb1.trans (hb2.mono hb1.size)⟩
theorem row_nil (w : World) : Row w (.slice none 0 0) 0 (fun _ => 0) := .inl ⟨rfl, none, 0, rfl, by simp⟩
theorem encN_le (p : Nat) : encN p ≤ 4 := by unfold encN; repeat' split
                                             all_goals omega
theorem catF0 (g : Nat → Int) : catF 0 (fun _ => 0) g = g := by funext i; simp [catF]
/-- utf.Put at nothing: the text of one code point. -/
theorem put_new (p : Nat) (w : World) (hT : Tab w) (hp : ptB p = true) :
    Calls Tryz.prog 88 #[.slice none 0 0, .int .i64 (p : Int)] w fun e w' => ∃ r, e = .returned (.tuple #[r, .int .i64 0]) ∧ Row w' r (encN p) (encF p) ∧ Below w.heap.size w w' := by
  refine (put_ok (.slice none 0 0) 0 (fun _ => 0) p w hT hp (row_nil w) (by omega)).mono ?_
  rintro e w' ⟨r, rfl, ho, hb⟩
  rw [Nat.zero_add, catF0] at ho
  have h3 := (ptB_iff p).1 hp
  exact ⟨r, rfl, Row.of_own (encF_lo p h3.1 h3.2.1) (encF_hi p h3.1 h3.2.1) ho, hb⟩
theorem esc1 (p : Nat) : (⟨#[92]⟩ : ByteArray) ++ txt (encN p) (encF p) = bsx (92 :: encL p) := by
  rw [show (⟨#[92]⟩ : ByteArray) = bsx [92] from rfl, show txt (encN p) (encF p) = bsx (encL p) from rfl, bsx_app, List.singleton_append]
set_option maxRecDepth 100000 in
set_option maxHeartbeats 800000 in
theorem point_in (p : Nat) (sp : ByteArray) (w : World) (hX : TX w) (hs : sp.size < 4294967281) (h9 : 32 ≤ p) (h13 : p ≠ 127) (hp : ptB p = true) (hc : Lib.contains sp.data.toList (encL p) = true) : PoinT p sp w := by
  unfold PoinT
  have HL : Hid (pointL p sp.data.toList = 92 :: encL p) := hid_intro (by unfold pointL; rw [if_neg (by omega), if_neg (by omega), if_neg (by rw [hp]; simp), hc]; rfl)
  obtain ⟨P, hP⟩ : ∃ P : Ending → World → Prop, P = fun r w' => r = .returned (.string (bsx (pointL p sp.data.toList))) ∧ Below w.heap.size w w' := ⟨_, rfl⟩
  rw [← hP]
  have HP := hid_intro hP
  have HC := hid_intro (fun w' (hb : Below w.heap.size w w') => (hX.below hb).ml.elim fun m hm => Tryz.strings_Contains sp (txt (encN p) (encF p)) m w' hs hm)
  have HU := hid_intro (fun w' (hb : Below w.heap.size w w') => put_new p w' (hX.below hb).tab hp)
  have hpt := isPt_any p w hX.tab
  rw [isPt_ptB, hp] at hpt
  have hc2 : Lib.contains sp.data.toList (txt (encN p) (encF p)).data.toList = true := by rw [← hc]; simp [txt, encL]
  have s1 : (txt (encN p) (encF p)).size ≤ 4 := by rw [txt_size]; exact encN_le p
  have k1 : 9 ≤ (p : Int) := by omega
  have k2 : ¬ (p : Int) ≤ 13 := by omega
  have k3 : ¬ (p : Int) < 32 := by omega
  have k4 : ((p : Int) == 127) = false := by simp; omega
  rw [hc2] at HC
  clear hP hX h9 h13 hp hc hc2 hs
  generalize hT : txt (encN p) (encF p) = T at *
  go_enter Tryz.func64, Tryz.ntmps64
  go_wp2_with fail
  refine hpt.mono ?_; rintro r w1 ⟨rfl, hb1⟩
  go_wp2_with fail
  refine (HU.out w1 hb1).mono ?_; rintro r w2 ⟨x, rfl, hR, hb2⟩
  have hcv := conv_row w2 x _ _ hR
  rw [hT] at hcv
  have HB2 := hid_intro (hb1.trans (hb2.mono hb1.size))
  obtain ⟨a, cap, rfl, _⟩ := hR.shape
  have HT := hid_intro hT
  clear hR hT
  go_wp2_with fail
  refine (HC.out w2 HB2.out).mono ?_; rintro r w3 ⟨rfl, rfl⟩
  go_wp2_with fail
  rw [HP.out, HL.out]
  exact ⟨by rw [← HT.out, esc1]; rfl, HB2.out⟩
set_option maxRecDepth 100000 in
set_option maxHeartbeats 800000 in
theorem point_out (p : Nat) (sp : ByteArray) (w : World) (hX : TX w) (hs : sp.size < 4294967281) (h9 : 32 ≤ p) (h13 : p ≠ 127) (hp : ptB p = true) (hc : Lib.contains sp.data.toList (encL p) = false) : PoinT p sp w := by
  unfold PoinT
  have HL : Hid (pointL p sp.data.toList = encL p) := hid_intro (by unfold pointL; rw [if_neg (by omega), if_neg (by omega), if_neg (by rw [hp]; simp), hc]; rfl)
  obtain ⟨P, hP⟩ : ∃ P : Ending → World → Prop, P = fun r w' => r = .returned (.string (bsx (pointL p sp.data.toList))) ∧ Below w.heap.size w w' := ⟨_, rfl⟩
  rw [← hP]
  have HP := hid_intro hP
  have HC := hid_intro (fun w' (hb : Below w.heap.size w w') => (hX.below hb).ml.elim fun m hm => Tryz.strings_Contains sp (txt (encN p) (encF p)) m w' hs hm)
  have HU := hid_intro (fun w' (hb : Below w.heap.size w w') => put_new p w' (hX.below hb).tab hp)
  have hpt := isPt_any p w hX.tab
  rw [isPt_ptB, hp] at hpt
  have hc2 : Lib.contains sp.data.toList (txt (encN p) (encF p)).data.toList = false := by rw [← hc]; simp [txt, encL]
  have s1 : (txt (encN p) (encF p)).size ≤ 4 := by rw [txt_size]; exact encN_le p
  have k1 : 9 ≤ (p : Int) := by omega
  have k2 : ¬ (p : Int) ≤ 13 := by omega
  have k3 : ¬ (p : Int) < 32 := by omega
  have k4 : ((p : Int) == 127) = false := by simp; omega
  rw [hc2] at HC
  clear hP hX h9 h13 hp hc hc2 hs
  generalize hT : txt (encN p) (encF p) = T at *
  go_enter Tryz.func64, Tryz.ntmps64
  go_wp2_with fail
  refine hpt.mono ?_; rintro r w1 ⟨rfl, hb1⟩
  go_wp2_with fail
  refine (HU.out w1 hb1).mono ?_; rintro r w2 ⟨x, rfl, hR, hb2⟩
  have hcv := conv_row w2 x _ _ hR
  rw [hT] at hcv
  have HB2 := hid_intro (hb1.trans (hb2.mono hb1.size))
  obtain ⟨a, cap, rfl, _⟩ := hR.shape
  have HT := hid_intro hT
  clear hR hT
  go_wp2_with fail
  refine (HC.out w2 HB2.out).mono ?_; rintro r w3 ⟨rfl, rfl⟩
  go_wp2_with fail
  rw [HP.out, HL.out]
  exact ⟨by rw [← HT.out]; rfl, HB2.out⟩
theorem point_any (p : Nat) (sp : ByteArray) (w : World) (hX : TX w) (hs : sp.size < 4294967281) (hp : p ≤ 1114111) : PoinT p sp w := by
  by_cases h1 : 9 ≤ p ∧ p ≤ 13
  · exact point_esc p sp w h1.1 h1.2
  · by_cases h2 : p < 32 ∨ p = 127
    · by_cases h3 : p < 9
      · exact point_hexa p sp w hX h1 h2 h3
      · by_cases h4 : p = 127
        · exact point_hexc p sp w hX h1 h2 h4
        · exact point_hexb p sp w hX h1 h2 (by omega)
    · cases h3 : ptB p
      · have : ¬ (0 ≤ (p : Int) ∧ (p : Int) ≤ 1114111 ∧ ¬ (55296 ≤ (p : Int) ∧ (p : Int) ≤ 57343)) := fun h => by rw [(ptB_iff p).2 h] at h3; cases h3
        exact point_sur p sp w hX (by omega) (by omega) h3
      · cases h4 : Lib.contains sp.data.toList (encL p)
        · exact point_out p sp w hX hs (by omega) (by omega) h3 h4
        · exact point_in p sp w hX hs (by omega) (by omega) h3 h4
end Go.Proofs.YtppilokmgdpnnaaGreatDoor

namespace Go.Proofs.YtppilokmgdpnnaaGreatDoor
open Go.Shelf
def lays166_ren : Go.Shelf.Ren := ⟨fun | 166 => 112 | 240 => 131 | 276 => 143 | n => n, fun | 0 => 0 | 3 => 3 | 4 => 4 | 5 => 5 | 9 => 9 | 20 => 20 | 37 => 40 | 70 => 125 | 72 => 127 | 75 => 129 | 80 => 132 | 164 => 148 | n => n, fun | n => n⟩
theorem lays166 : Go.Proofs.Lays.n166 Tryz.prog lays166_ren := {
  mixed := by kernel_rfl
  f166 := Tryz.func112.trans (congrArg some (by kernel_rfl))
  f240 := Tryz.func131.trans (congrArg some (by kernel_rfl))
  f276 := Tryz.func143.trans (congrArg some (by kernel_rfl))
  t0 := Tryz.underlying0
  a0 := Tryz.isAgg0
  z0 := Tryz.sizeOf0
  v0 := Tryz.zeroValue0
  t3 := Tryz.underlying3
  a3 := Tryz.isAgg3
  z3 := Tryz.sizeOf3
  v3 := Tryz.zeroValue3
  t4 := Tryz.underlying4
  a4 := Tryz.isAgg4
  z4 := Tryz.sizeOf4
  v4 := Tryz.zeroValue4
  t9 := Tryz.underlying9
  a9 := Tryz.isAgg9
  z9 := Tryz.sizeOf9
  v9 := Tryz.zeroValue9
  t20 := Tryz.underlying20
  a20 := Tryz.isAgg20
  z20 := Tryz.sizeOf20
  v20 := Tryz.zeroValue20
  t37 := Tryz.underlying40
  a37 := Tryz.isAgg40
  z37 := Tryz.sizeOf40
  v37 := Tryz.zeroValue40
  t70 := Tryz.underlying125
  a70 := Tryz.isAgg125
  z70 := Tryz.sizeOf125
  v70 := Tryz.zeroValue125
  t72 := Tryz.underlying127
  a72 := Tryz.isAgg127
  z72 := Tryz.sizeOf127
  v72 := Tryz.zeroValue127
  t75 := Tryz.underlying129
  a75 := Tryz.isAgg129
  z75 := Tryz.sizeOf129
  v75 := Tryz.zeroValue129
  t164 := Tryz.underlying148
  a164 := Tryz.isAgg148
  z164 := Tryz.sizeOf148
  v164 := Tryz.zeroValue148 }
theorem extra166 : Builder.Extra Tryz.prog lays166_ren := {
  sizeBuilder := by kernel_rfl
  liesBuilder := by kernel_rfl
  t5 := Tryz.underlying5
  a5 := Tryz.isAgg5
  z5 := Tryz.sizeOf5
  v5 := Tryz.zeroValue5
  infoByte := by kernel_rfl
  cellsByte := by kernel_rfl
  sizeByte := by kernel_rfl
  neB5 := by decide }

end Go.Proofs.YtppilokmgdpnnaaGreatDoor
