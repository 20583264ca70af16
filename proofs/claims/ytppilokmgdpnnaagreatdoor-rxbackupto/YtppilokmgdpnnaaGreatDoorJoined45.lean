/-
  That heads answers true. Conditions: the table of greatest code points holds its four numbers.
  RxChecks answers true. Conditions: at most 2^20 nodes and ranges; the library's tables and the table of greatest code points as the program lays them.
-/
import Derived.Test.YtppilokmgdpnnaaGreatDoorJoined44
import Derived.Test.YtppilokmgdpnnaaGreatDoorJoined25
import Derived.Test.YtppilokmgdpnnaaGreatDoorJoined42
import Derived.Test.YtppilokmgdpnnaaGreatDoorJoined43
import Derived.Deep.RegionHeld3
namespace Go.Proofs.YtppilokmgdpnnaaGreatDoor
open Go.RowKit
attribute [local go_sem] setCell_drewN alloc_drewN

def xA : RX := .mk 2 [(97, 97)] 0 0 false []
def xB : RX := .mk 2 [(98, 98)] 0 0 false []
def xR : RX := .mk 5 [] 0 (-1) false [xB]
def xH : RX := .mk 4 [] 0 0 false [xA, xR]
def yH : RX := .mk 2 [(0, 96), (100, 1114111)] 0 0 false []
/-- The texts that are none. -/
def bd : Nat → ByteArray
  | 0 => ⟨#[97, 42, 42]⟩
  | 1 => ⟨#[93]⟩
  | 2 => ⟨#[92, 49]⟩
  | 3 => ⟨#[40, 63, 61, 97, 41]⟩
  | 4 => ⟨#[97, 123, 50, 44, 49, 125]⟩
  | 5 => ⟨#[91, 98, 45, 97, 93]⟩
  | _ => ⟨#[40]⟩
set_option maxRecDepth 100000 in
theorem parse_h1 : parseS ⟨#[97, 124, 98, 42]⟩ = some xH := by rfl
set_option maxRecDepth 100000 in
theorem parse_h2 : parseS ⟨#[91, 94, 97, 45, 99, 93]⟩ = some yH := by rfl
set_option maxRecDepth 100000 in
theorem parse_bd : ∀ i, i < 7 → parseS (bd i) = none
  | 0, _ => by rfl
  | 1, _ => by rfl
  | 2, _ => by rfl
  | 3, _ => by rfl
  | 4, _ => by rfl
  | 5, _ => by rfl
  | 6, _ => by rfl
theorem bd_size (i : Nat) : (bd i).size ≤ 1099511627776 := by
  unfold bd; split <;> decide

theorem bad_cell {w : World} {b : Nat} (h : Bk w b #[.string ⟨#[97, 42, 42]⟩, .string ⟨#[93]⟩, .string ⟨#[92, 49]⟩, .string ⟨#[40, 63, 61, 97, 41]⟩, .string ⟨#[97, 123, 50, 44, 49, 125]⟩, .string ⟨#[91, 98, 45, 97, 93]⟩, .string ⟨#[40]⟩]) (i : Nat) (hi : i < 7) : w.cell? ⟨b, i, none⟩ = some (.string (bd i)) := by
  rw [h.cell i]
  match i, hi with
  | 0, _ => rfl
  | 1, _ => rfl
  | 2, _ => rfl
  | 3, _ => rfl
  | 4, _ => rfl
  | 5, _ => rfl
  | 6, _ => rfl
/-- What stands in the tree of the first text. -/
theorem open_xH {w : World} {X : Nat → Prop} {f : Nat → Value} (h : XI w X xH f) : ∃ ra1 rc1 b off cap, ∃ G0 G1 : Nat → Value, xa f = .agg #[.int .i64 4, .slice ra1 0 rc1, .int .i64 0, .int .i64 0, .bool false, .slice (some ⟨b, off, none⟩) 2 cap] ∧ (∀ j, j < 6 → w.cell? ⟨b, off + j, none⟩ = some (G0 j)) ∧ (∀ j, j < 6 → w.cell? ⟨b, off + 6 + j, none⟩ = some (G1 j)) ∧ XI w X xA G0 ∧ G1 0 = .int .i64 5 ∧ G1 3 = .int .i64 (-1) ∧ b < w.heap.size := by
  unfold xH at h
  cases h with
  | mk ao cap G f0 f1 f2 f3 f4 f5 hc hw hl hr =>
    rcases hl with hl | ⟨b, off, rfl, _, hcell⟩
    · simp at hl
    obtain ⟨a1, c1, e1, _⟩ := f1.shape
    have h1 := hr 1 (by simp)
    have hx1 : XI w X xR (G 1) := h1
    have h0 : XI w X xA (G 0) := hr 0 (by simp)
    unfold xR at hx1
    cases hx1 with
    | mk ao2 cap2 G2 g0 g1 g2 g3 g4 g5 _ _ _ _ =>
      refine ⟨a1, c1, b, off, cap, G 0, G 1, by unfold xa; rw [f0, e1, f2, f3, f4, f5]; rfl, fun j hj => ?_, fun j hj => ?_, h0, g0, g3, World.block_lt_of_cell? w _ (hcell 0 (by simp) 0 (by omega))⟩
      · have := hcell 0 (by simp) j hj
        simpa using this
      · have := hcell 1 (by simp) j hj
        simpa using this
theorem open_yH {w : World} {X : Nat → Prop} {f : Nat → Value} (h : XI w X yH f) : ∃ ry cy ay cay, xa f = .agg #[.int .i64 2, .slice ry 2 cy, .int .i64 0, .int .i64 0, .bool false, .slice ay 0 cay] ∧ RI w X [(0, 96), (100, 1114111)] (.slice ry 2 cy) := by
  unfold yH at h
  cases h with
  | mk ao cap G f0 f1 f2 f3 f4 f5 hc hw hl hr =>
    have f1' := f1
    obtain ⟨a1, c1, e1, _⟩ := f1.shape
    refine ⟨a1, c1, ao, cap, by unfold xa; rw [f0, e1, f2, f3, f4, f5]; rfl, ?_⟩
    rw [e1] at f1'
    exact f1'
theorem ri_A (w : World) (n : Nat) (k : Bk w n #[.int .i64 97, .int .i64 97]) : RI w (fun _ => False) [(97, 97)] (.slice (some ⟨n, 0, none⟩) 1 1) := by
  refine ⟨some ⟨n, 0, none⟩, 1, rfl, Nat.le_refl _, by unfold maxLen; omega, fun r hr => ?_, Or.inr ⟨n, 0, rfl, fun h => h, fun i hi => ?_⟩⟩
  · obtain rfl : r = (97, 97) := by simpa using hr
    exact ⟨I64_of (by omega) (by omega), I64_of (by omega) (by omega)⟩
  · obtain rfl : i = 0 := by simp at hi; omega
    exact k.c2
theorem same_A (w : World) (G0 : Nat → Value) (n : Nat) (X : Nat → Prop) (hx : XI w X xA G0) (k : Bk w n #[.int .i64 97, .int .i64 97]) :
    Calls Tryz.prog 12 #[.agg #[G0 0, G0 1, G0 2, G0 3, G0 4, G0 5], .agg #[.int .i64 2, .slice (some ⟨n, 0, none⟩) 1 1, .int .i64 0, .int .i64 0, .bool false, .slice none 0 0]] w fun r w2 => r = .returned (.bool true) ∧ Below w.heap.size w w2 := by
  have h := same_refl xA G0 _ w X _ hx (xi_set w _ [(97, 97)] _ (ri_A w n k))
  have e2 : xa (fun i => [Value.int .i64 2, .slice (some ⟨n, 0, none⟩) 1 1, .int .i64 0, .int .i64 0, .bool false, .slice none 0 0].getD i .nilIface) = .agg #[.int .i64 2, .slice (some ⟨n, 0, none⟩) 1 1, .int .i64 0, .int .i64 0, .bool false, .slice none 0 0] := rfl
  rw [e2] at h
  unfold xa at h
  exact h
theorem same_Y (w : World) (ry : Option Addr) (cy blk : Nat) (X : Nat → Prop) (hr : RI w X [(0, 96), (100, 1114111)] (.slice ry 2 cy)) (k : Bk w blk #[.int .i64 0, .int .i64 96, .int .i64 100, .int .i64 1114111]) :
    Calls Tryz.prog 17 #[.slice ry 2 cy, .slice (some ⟨blk, 0, none⟩) 2 2] w fun r w2 => r = .returned (.bool true) ∧ Below w.heap.size w w2 := by
  have h2 : RI w (fun _ => False) [(0, 96), (100, 1114111)] (.slice (some ⟨blk, 0, none⟩) 2 2) := by
    refine ⟨some ⟨blk, 0, none⟩, 2, rfl, Nat.le_refl _, by unfold maxLen; omega, fun r hr => ?_, Or.inr ⟨blk, 0, rfl, fun h => h, fun i hi => ?_⟩⟩
    · simp only [List.mem_cons, List.not_mem_nil, or_false] at hr
      rcases hr with rfl | rfl
      · exact ⟨I64_of (by omega) (by omega), I64_of (by omega) (by omega)⟩
      · exact ⟨I64_of (by omega) (by omega), I64_of (by omega) (by omega)⟩
    · have hi' : i < 2 := by simpa using hi
      match i, hi' with
      | 0, _ => exact ⟨k.cell 0, k.cell 1⟩
      | 1, _ => exact ⟨k.cell 2, k.cell 3⟩
  have h := ranges_any _ _ _ _ w X _ hr h2
  rw [decide_eq_true rfl] at h
  exact h
set_option maxRecDepth 100000 in
set_option maxHeartbeats 1600000 in
theorem heads_any (w : World) (hT : Tab w) (hg0 : 0 < w.heap.size) :
    Calls Tryz.prog 8 #[] w fun r w' => r = .returned (.bool true) ∧ Below w.heap.size w w' := by
  have hpa := fun (s : ByteArray) (t : Option RX) (e : parseS s = t) (hs : s.size ≤ 1099511627776) w' (hb : Below w.heap.size w w') => e ▸ parse_any s w' (hT.below hb) (Nat.lt_of_lt_of_le hg0 hb.size) hs
  have HPA := hid_intro hpa
  clear hpa hT hg0
  obtain ⟨P, hP⟩ : ∃ P : Ending → World → Prop, P = fun r w' => r = .returned (.bool true) ∧ Below w.heap.size w w' := ⟨_, rfl⟩
  rw [← hP]
  have HP := hid_intro hP
  clear hP
  obtain ⟨W, hW⟩ : ∃ W, (w.alloc (.cells #[.int .i64 97, .int .i64 97] 46)).alloc (.cells #[.int .i64 2, .slice (some ⟨w.heap.size, 0, none⟩) 1 1, .int .i64 0, .int .i64 0, .bool false, .slice none 0 0] 26) = W := ⟨_, rfl⟩
  have hWb : Below w.heap.size w W := hW ▸ vb_a (vb_a (Below.refl _ _) _) _
  have kS : Bk W w.heap.size #[.int .i64 97, .int .i64 97] := hW ▸ (Bk.new _ _ _).al _
  have kA : Bk W (w.heap.size + 1) #[.int .i64 2, .slice (some ⟨w.heap.size, 0, none⟩) 1 1, .int .i64 0, .int .i64 0, .bool false, .slice none 0 0] := hW ▸ Bk.new' _ _ _ _ (by simp)
  have HW := hid_intro hW
  clear hW
  go_enter Tryz.func8, Tryz.ntmps8
  go_wp2_with fail
  rw [HW.out]
  refine (HPA.out _ _ parse_h1 (by decide) W hWb).mono ?_; rintro r w1 ⟨hb1, f1, rfl, hx1⟩
  obtain ⟨ra1, rc1, b, off, cap, G0, G1, ef1, q0, q1, hxA, g10, g13, hbl⟩ := open_xH hx1
  rw [ef1]
  have hb01 := vb_t hWb hb1
  have HK1 := hid_intro (Bk.new w1 #[.int .i64 4, .slice ra1 0 rc1, .int .i64 0, .int .i64 0, .bool false, .slice (some ⟨b, off, none⟩) 2 cap] 26)
  have HL1 := hid_intro (vb_a (Below.refl w1.heap.size w1) (.cells #[.int .i64 4, .slice ra1 0 rc1, .int .i64 0, .int .i64 0, .bool false, .slice (some ⟨b, off, none⟩) 2 cap] 26))
  go_wp2_with fail
  refine (HPA.out _ _ parse_h2 (by decide) _ (vb_t hb01 HL1.out)).mono ?_; rintro r w2 ⟨hb2, f2, rfl, hx2⟩
  obtain ⟨ry, cy, ay, cay, ef2, hri2⟩ := open_yH hx2
  rw [ef2]
  have HK2 := hid_intro (Bk.new w2 #[.int .i64 2, .slice ry 2 cy, .int .i64 0, .int .i64 0, .bool false, .slice ay 0 cay] 26)
  have HL2 := hid_intro (vb_a (Below.refl w2.heap.size w2) (.cells #[.int .i64 2, .slice ry 2 cy, .int .i64 0, .int .i64 0, .bool false, .slice ay 0 cay] 26))
  obtain ⟨V, hV⟩ : ∃ V, (w2.alloc (.cells #[.int .i64 2, .slice ry 2 cy, .int .i64 0, .int .i64 0, .bool false, .slice ay 0 cay] 26)).alloc (.cells #[.string ⟨#[97, 42, 42]⟩, .string ⟨#[93]⟩, .string ⟨#[92, 49]⟩, .string ⟨#[40, 63, 61, 97, 41]⟩, .string ⟨#[97, 123, 50, 44, 49, 125]⟩, .string ⟨#[91, 98, 45, 97, 93]⟩, .string ⟨#[40]⟩] 9) = V := ⟨_, rfl⟩
  have hVb2 : Below w2.heap.size w2 V := hV ▸ vb_a HL2.out _
  have kV2 : Bk V w2.heap.size #[.int .i64 2, .slice ry 2 cy, .int .i64 0, .int .i64 0, .bool false, .slice ay 0 cay] := hV ▸ HK2.out.al _
  have kV3 : Bk V (w2.heap.size + 1) #[.string ⟨#[97, 42, 42]⟩, .string ⟨#[93]⟩, .string ⟨#[92, 49]⟩, .string ⟨#[40, 63, 61, 97, 41]⟩, .string ⟨#[97, 123, 50, 44, 49, 125]⟩, .string ⟨#[91, 98, 45, 97, 93]⟩, .string ⟨#[40]⟩] := hV ▸ Bk.new' _ _ _ _ (by simp)
  have hV1 : Below w1.heap.size w1 V := vb_t (vb_t HL1.out hb2) hVb2
  have kV1 : Bk V w1.heap.size #[.int .i64 4, .slice ra1 0 rc1, .int .i64 0, .int .i64 0, .bool false, .slice (some ⟨b, off, none⟩) 2 cap] := (HK1.out.bel hb2).bel hVb2
  have kVA : Bk V (w.heap.size + 1) #[.int .i64 2, .slice (some ⟨w.heap.size, 0, none⟩) 1 1, .int .i64 0, .int .i64 0, .bool false, .slice none 0 0] := (kA.bel hb1).bel hV1
  have kVS : Bk V w.heap.size #[.int .i64 97, .int .i64 97] := (kS.bel hb1).bel hV1
  have HV := hid_intro (vb_t hb01 hV1)
  have HXA := hid_intro (hxA.kept hV1)
  have HRI := hid_intro (hri2.kept hVb2)
  have HQ0 : Hid (∀ j, j < 6 → V.cell? ⟨b, off + j, none⟩ = some (G0 j)) := hid_intro (fun j hj => (hV1.cell (p := ⟨b, off + j, none⟩) hbl).trans (q0 j hj))
  have HQ1 : Hid (∀ j, j < 6 → V.cell? ⟨b, off + 6 + j, none⟩ = some (G1 j)) := hid_intro (fun j hj => (hV1.cell (p := ⟨b, off + 6 + j, none⟩) hbl).trans (q1 j hj))
  have hblV : b < V.heap.size := Nat.lt_of_lt_of_le hbl hV1.size
  have HG : Hid (G1 0 = .int .i64 5 ∧ G1 3 = .int .i64 (-1)) := hid_intro ⟨g10, g13⟩
  have HKV := hid_intro (And.intro kV1 (And.intro kV2 (And.intro kV3 (And.intro kVA kVS))))
  clear hx1 hx2 hxA hri2 ef1 ef2 q0 q1 g10 g13 hb1 hb2 hb01 HK1 HL1 HK2 HL2 hVb2 hV1 kV1 kV2 kV3 kVA kVS kA kS hWb
  go_wp2_with fail
  go_loopg [7] 7 (fun m s7 wr => ∃ i : Nat, i ≤ 7 ∧ m = 7 - i ∧ s7 = .int .i64 (i : Int) ∧ Below V.heap.size V wr)
  case atStart => exact ⟨0, by omega, rfl, rfl, Below.refl _ _⟩
  case round =>
    obtain ⟨i, hi, rfl, rfl, hb⟩ := hrel
    by_cases hlt : i < 7
    · have hI : (i : Int) < 7 := by omega
      have hI0 : (0 : Int) ≤ (i : Int) := by omega
      have hc := bad_cell (HKV.out.2.2.1.bel hb) i hlt
      have hpb := HPA.out _ _ (parse_bd i hlt) (bd_size i) wr (vb_t HV.out hb)
      generalize bd i = sb at *
      go_wp2_with fail
      refine hpb.mono ?_; rintro r w5 ⟨hb5, rfl⟩
      have HBN := hid_intro (vb_a (vb_t hb hb5) (.cells #[.int .i64 0, .slice none 0 0, .int .i64 0, .int .i64 0, .bool false, .slice none 0 0] 26))
      go_wp2_with fail
      go_roundg (7 - (i + 1))
      case measure => omega
      case rel => exact ⟨i + 1, by omega, rfl, by simp, HBN.out⟩
    · obtain rfl : i = 7 := by omega
      obtain ⟨kV1, kV2, kV3, kVA, kVS⟩ := HKV.out
      have HB := hid_intro hb
      have HS : Hid (∀ w', Below wr.heap.size wr w' → w'.cell? ⟨w1.heap.size, 0, none⟩ = some (.int .i64 4) ∧ w'.cell? ⟨w1.heap.size, 5, none⟩ = some (.slice (some ⟨b, off, none⟩) 2 cap) ∧ w'.cell? ⟨b, off, none⟩ = some (G0 0) ∧ w'.cell? ⟨b, off + 1, none⟩ = some (G0 1) ∧ w'.cell? ⟨b, off + 2, none⟩ = some (G0 2) ∧ w'.cell? ⟨b, off + 3, none⟩ = some (G0 3) ∧ w'.cell? ⟨b, off + 4, none⟩ = some (G0 4) ∧ w'.cell? ⟨b, off + 5, none⟩ = some (G0 5) ∧ w'.cell? ⟨b, off + 6, none⟩ = some (.int .i64 5) ∧ w'.cell? ⟨b, off + 6 + 3, none⟩ = some (.int .i64 (-1)) ∧ w'.cell? ⟨w.heap.size + 1, 0, none⟩ = some (.int .i64 2) ∧ w'.cell? ⟨w.heap.size + 1, 1, none⟩ = some (.slice (some ⟨w.heap.size, 0, none⟩) 1 1) ∧ w'.cell? ⟨w.heap.size + 1, 2, none⟩ = some (.int .i64 0) ∧ w'.cell? ⟨w.heap.size + 1, 3, none⟩ = some (.int .i64 0) ∧ w'.cell? ⟨w.heap.size + 1, 4, none⟩ = some (.bool false) ∧ w'.cell? ⟨w.heap.size + 1, 5, none⟩ = some (.slice none 0 0) ∧ w'.cell? ⟨w2.heap.size, 1, none⟩ = some (.slice ry 2 cy)) := hid_intro (fun w' hb' => by
        have hb2 := vb_t HB.out hb'
        have cc : ∀ j, j < 6 → w'.cell? ⟨b, off + j, none⟩ = some (G0 j) := fun j hj => (hb2.cell (p := ⟨b, off + j, none⟩) hblV).trans (HQ0.out j hj)
        have dd : ∀ j, j < 6 → w'.cell? ⟨b, off + 6 + j, none⟩ = some (G1 j) := fun j hj => (hb2.cell (p := ⟨b, off + 6 + j, none⟩) hblV).trans (HQ1.out j hj)
        obtain ⟨x0, x1, x2, x3, x4, x5⟩ := (kV1.bel hb2).c6
        obtain ⟨y0, y1, y2, y3, y4, y5⟩ := (kV2.bel hb2).c6
        obtain ⟨a0, a1, a2, a3, a4, a5⟩ := (kVA.bel hb2).c6
        exact ⟨x0, x5, cc 0 (by omega), cc 1 (by omega), cc 2 (by omega), cc 3 (by omega), cc 4 (by omega), cc 5 (by omega), by rw [← HG.out.1]; exact dd 0 (by omega), by rw [← HG.out.2]; exact dd 3 (by omega), a0, a1, a2, a3, a4, a5, y1⟩)
      have HCS : Hid (∀ w', Below wr.heap.size wr w' → Calls Tryz.prog 12 #[.agg #[G0 0, G0 1, G0 2, G0 3, G0 4, G0 5], .agg #[.int .i64 2, .slice (some ⟨w.heap.size, 0, none⟩) 1 1, .int .i64 0, .int .i64 0, .bool false, .slice none 0 0]] w' fun r w2 => r = .returned (.bool true) ∧ Below w'.heap.size w' w2) := hid_intro (fun w' hb' => by
        have hb2 := vb_t HB.out hb'
        exact same_A w' G0 w.heap.size _ (HXA.out.kept hb2) (kVS.bel hb2))
      have HCR : Hid (∀ w' blk, Below wr.heap.size wr w' → Bk w' blk #[.int .i64 0, .int .i64 96, .int .i64 100, .int .i64 1114111] → Calls Tryz.prog 17 #[.slice ry 2 cy, .slice (some ⟨blk, 0, none⟩) 2 2] w' fun r w2 => r = .returned (.bool true) ∧ Below w'.heap.size w' w2) := hid_intro (fun w' blk hb' hk' => by
        exact same_Y w' ry cy blk _ (HRI.out.kept (vb_t HB.out hb')) hk')
      clear kV1 kV2 kV3 kVA kVS HKV HQ0 HQ1 HRI HXA HG HPA hb
      go_wp2_with fail
      go_region_held3 (fun w' => w'.cell? ⟨w1.heap.size, 0, none⟩ = some (.int .i64 4) ∧ w'.cell? ⟨w1.heap.size, 5, none⟩ = some (.slice (some ⟨b, off, none⟩) 2 cap) ∧ w'.cell? ⟨b, off, none⟩ = some (G0 0) ∧ w'.cell? ⟨b, off + 1, none⟩ = some (G0 1) ∧ w'.cell? ⟨b, off + 2, none⟩ = some (G0 2) ∧ w'.cell? ⟨b, off + 3, none⟩ = some (G0 3) ∧ w'.cell? ⟨b, off + 4, none⟩ = some (G0 4) ∧ w'.cell? ⟨b, off + 5, none⟩ = some (G0 5) ∧ w'.cell? ⟨b, off + 6, none⟩ = some (.int .i64 5) ∧ w'.cell? ⟨b, off + 6 + 3, none⟩ = some (.int .i64 (-1)) ∧ w'.cell? ⟨w.heap.size + 1, 0, none⟩ = some (.int .i64 2) ∧ w'.cell? ⟨w.heap.size + 1, 1, none⟩ = some (.slice (some ⟨w.heap.size, 0, none⟩) 1 1) ∧ w'.cell? ⟨w.heap.size + 1, 2, none⟩ = some (.int .i64 0) ∧ w'.cell? ⟨w.heap.size + 1, 3, none⟩ = some (.int .i64 0) ∧ w'.cell? ⟨w.heap.size + 1, 4, none⟩ = some (.bool false) ∧ w'.cell? ⟨w.heap.size + 1, 5, none⟩ = some (.slice none 0 0) ∧ w'.cell? ⟨w2.heap.size, 1, none⟩ = some (.slice ry 2 cy)) (first | (refine HS.out _ ?_; with_reducible repeat (first | exact Below.refl _ _ | refine vb_d ?_ | refine vb_a ?_ _ | refine vb_t ?_ hb7 | refine vb_t ?_ hb6)) | fail) (first | (go_at_call 12; refine (HCS.out _ ?_).mono ?_; (with_reducible repeat (first | exact Below.refl _ _ | refine vb_d ?_ | refine vb_a ?_ _)); rintro r w6 ⟨rfl, hb6⟩) | (go_at_call 17; refine (HCR.out _ _ ?_ (Bk.new _ _ _)).mono ?_; (with_reducible repeat (first | exact Below.refl _ _ | refine vb_d ?_ | refine vb_a ?_ _ | refine vb_t ?_ hb6)); rintro r w7 ⟨rfl, hb7⟩))
      all_goals
        go_wp2_with fail
        rw [HP.out]
        refine ⟨rfl, vb_t (vb_t HV.out HB.out) (vb_t (vb_a (vb_t ?_ hb6) _) hb7)⟩
        with_reducible repeat (first | exact Below.refl _ _ | refine vb_d ?_)
end Go.Proofs.YtppilokmgdpnnaaGreatDoor

namespace Go.Proofs.YtppilokmgdpnnaaGreatDoor
open Go.RowKit Go.Sort
attribute [local go_sem] setCell_drewN alloc_drewN

def TextC (t : RX) : List UInt8 := if rightB 1000 t = true then textT t else []
def errC (t : RX) : Int := if rightB 1000 t = true then 0 else 91
theorem text_c (t : RX) (f : Nat → Value) (w : World) (X : Nat → Prop) (hT : TX w) (hbd : BdX 1048576 t) (hwt : wtX t ≤ 1048576) (hx : XI w X t f) : Calls Tryz.prog 5 #[xa f] w fun r w' => r = .returned (.tuple #[.string (bsx (TextC t)), .int .i64 (errC t)]) ∧ Below w.heap.size w w' :=
  (text_any t f w X hT hbd hwt hx).mono fun r w' ⟨h1, h2⟩ => ⟨by
    rw [h1]; unfold TextC errC
    cases rightB 1000 t <;> rfl, h2⟩
set_option maxRecDepth 100000 in
set_option maxHeartbeats 3200000 in
theorem rxchecks_walk (t : RX) (f : Nat → Value) (w : World) (X : Nat → Prop) (hT : TX w) (hg0 : 0 < w.heap.size) (hbd : BdX 1048576 t) (hwt : wtX t ≤ 1048576) (hx : XI w X t f) :
    Calls Tryz.prog 3 #[xa f] w fun r w' => r = .returned (.bool true) ∧ Below w.heap.size w w' := by
  obtain ⟨k, a, n, c, lo, hi, z, a', n', c', e0, e1, e2, e3, e4, e5⟩ := hx.six
  have exa : xa f = .agg #[.int .i64 k, .slice a n c, .int .i64 lo, .int .i64 hi, .bool z, .slice a' n' c'] := by unfold xa; rw [e0, e1, e2, e3, e4, e5]
  obtain ⟨W, hW⟩ : ∃ W, w.alloc (.cells #[.int .i64 k, .slice a n c, .int .i64 lo, .int .i64 hi, .bool z, .slice a' n' c'] 26) = W := ⟨_, rfl⟩
  have HWb : Hid (Below w.heap.size w W) := hid_intro (hW ▸ vb_a (Below.refl _ _) _)
  have HWk : Hid (Bk W w.heap.size #[.int .i64 k, .slice a n c, .int .i64 lo, .int .i64 hi, .bool z, .slice a' n' c']) := hid_intro (hW ▸ Bk.new _ _ _)
  have hm := text_c t f W X (hT.below HWb.out) hbd hwt (hx.kept HWb.out)
  have HC : Hid (∀ w', Below W.heap.size W w' → Calls Tryz.prog 6 #[xa f] w' fun r w2 => r = .returned (.int .i64 (errC t)) ∧ Below W.heap.size W w2) := hid_intro (fun w' hb => (check_any t f w' X (hbd.mono (by omega)) (hx.kept (vb_t HWb.out hb))).mono fun r w2 h => ⟨h.1, vb_t hb h.2⟩)
  have HR : Hid (∀ w', Below W.heap.size W w' → Calls Tryz.prog 7 #[xa f] w' fun r w2 => r = .returned (.int .i64 (errC t)) ∧ Below W.heap.size W w2) := hid_intro (fun w' hb => (refCheck_any t f w' X (hx.kept (vb_t HWb.out hb))).mono fun r w2 h => ⟨h.1, vb_t hb h.2⟩)
  have HHD : Hid (∀ w', Below W.heap.size W w' → Calls Tryz.prog 8 #[] w' fun r w2 => r = .returned (.bool true) ∧ Below W.heap.size W w2) := hid_intro (fun w' hb => (heads_any w' ((hT.below (vb_t HWb.out hb)).tab) (Nat.lt_of_lt_of_le hg0 (vb_t HWb.out hb).size)).mono fun r w2 h => ⟨h.1, vb_t hb h.2⟩)
  have HS : Hid (∀ w', Below W.heap.size W w' → ∀ o, w'.cell? ⟨w.heap.size, o, none⟩ = #[Value.int .i64 k, .slice a n c, .int .i64 lo, .int .i64 hi, .bool z, .slice a' n' c'][o]?) := hid_intro (fun w' hb o => (HWk.out.bel hb).cell o)
  rw [exa] at hm HC HR ⊢
  obtain ⟨P, hP⟩ : ∃ P : Ending → World → Prop, P = fun r w' => r = .returned (.bool true) ∧ Below w.heap.size w w' := ⟨_, rfl⟩
  rw [← hP]
  have HP := hid_intro hP
  have HW := hid_intro hW
  clear hP hx exa e0 e1 e2 e3 e4 e5 hbd hwt hW hT hg0 HWk
  generalize errC t = E at *
  generalize TextC t = T at *
  go_enter Tryz.func3, Tryz.ntmps3
  go_wp2_with fail
  rw [HW.out]
  refine hm.mono ?_; rintro r w1 ⟨rfl, hc⟩
  clear hm
  go_wp2_with fail
  go_region_held3 (fun w' => ∀ o, w'.cell? ⟨w.heap.size, o, none⟩ = #[Value.int .i64 k, .slice a n c, .int .i64 lo, .int .i64 hi, .bool z, .slice a' n' c'][o]?) (first | (refine HS.out _ ?_; with_reducible repeat (first | exact hc | refine vb_d ?_)) | fail) (first | (go_at_call 6; refine (HC.out _ ?_).mono ?_; (with_reducible repeat (first | exact hc | refine vb_d ?_)); rintro r w3 ⟨rfl, hc⟩) | (go_at_call 7; refine (HR.out _ ?_).mono ?_; (with_reducible repeat (first | exact hc | refine vb_d ?_)); rintro r w3 ⟨rfl, hc⟩) | (go_at_call 8; refine (HHD.out _ ?_).mono ?_; (with_reducible repeat (first | exact hc | refine vb_d ?_)); rintro r w3 ⟨rfl, hc⟩) | fail)
  all_goals
    go_wp2_with fail
    rw [HP.out]
    exact ⟨rfl, vb_t HWb.out (by with_reducible repeat (first | exact hc | refine vb_d ?_))⟩
end Go.Proofs.YtppilokmgdpnnaaGreatDoor
