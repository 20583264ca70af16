/-
  What utf.Points answers: the code points of a valid text, or the error. Conditions: the table of greatest code points holds its four numbers; the text is at most 2^44 bytes long.
-/
import Derived.Test.YtppilokmgdpnnaaGreatDoorJoined4
import Derived.Lib.OthersKept
namespace Go.Proofs.YtppilokmgdpnnaaGreatDoor
open Go.RowKit

/-- The bytes as a list, and as a text. -/
def bs (len : Nat) (f : Nat → Int) : List UInt8 := (List.range len).map fun i => UInt8.ofNat (f i).toNat
def txt (len : Nat) (f : Nat → Int) : ByteArray := ⟨(bs len f).toArray⟩
theorem bs_length (len : Nat) (f : Nat → Int) : (bs len f).length = len := by simp [bs]
theorem txt_size (len : Nat) (f : Nat → Int) : (txt len f).size = len := by simp [txt, ByteArray.size, bs_length]
theorem bs_at (len : Nat) (f : Nat → Int) (lo : ∀ i, 0 ≤ f i) (hi : ∀ i, f i < 256) (j : Nat) (h : j < (bs len f).length) : (((bs len f)[j]).toNat : Int) = f j := by
  have a := lo j
  have b := hi j
  simp [bs]
  omega
theorem txt_at (len : Nat) (f : Nat → Int) (lo : ∀ i, 0 ≤ f i) (hi : ∀ i, f i < 256) (j : Nat) (h : j < len) : (((txt len f).get! j).toNat : Int) = f j := by
  have := bs_at len f lo hi j (by rw [bs_length]; exact h)
  have e : (txt len f).get! j = (bs len f)[j]'(by rw [bs_length]; exact h) := by
    simp [txt, ByteArray.get!, bs_length, h]
  rw [e]; exact this


theorem conv_row (w : World) (v : Value) (len : Nat) (f : Nat → Int) (hR : Row w v len f) : (convert 40 9 v).run Tryz.prog w = .ok (.string (txt len f)) w := by
  rcases hR with ⟨rfl, a, cap, rfl, _⟩ | ⟨b, off, cap, rfl, hc, hm, hL⟩
  · rcases a with _ | a
    · exact run_convert_bytes_nil (P := Tryz.prog) w 40 5 Tryz.underlying40 Tryz.underlying5 0 cap 9 Tryz.underlying9
    · exact run_convert_bytes_back (P := Tryz.prog) w 40 9 5 a cap [] Tryz.underlying40 Tryz.underlying5 Tryz.underlying9 (fun j hj => absurd hj (by simp))
  · have hcell : ∀ j (hj : j < (bs len f).length), w.cell? ((⟨b, off, none⟩ : Addr).add j) = some (.int .u8 (((bs len f)[j]).toNat : Int)) := by
      intro j hj
      rw [bs_at len f hL.lo hL.hi j hj]
      rw [bs_length] at hj
      rw [add_at]
      exact hL.cell j hj
    have := run_convert_bytes_back (P := Tryz.prog) w 40 9 5 ⟨b, off, none⟩ cap (bs len f) Tryz.underlying40 Tryz.underlying5 Tryz.underlying9 hcell
    rw [bs_length] at this
    exact this

theorem info3 : (Tryz.prog.info? 3).map (fun i => (i.zero, i.size, i.bytes)) = some (some (.int .i64 0), 1, 8) := by kernel_rfl

theorem Row.drewN {w : World} {v : Value} {len : Nat} {f : Nat → Int} (h : Row w v len f) (n : Nat) : Row (w.drewN n) v len f := by
  rcases h with h | ⟨b, off, cap, rfl, hc, hm, hL⟩
  · exact .inl h
  · exact .inr ⟨b, off, cap, rfl, hc, hm, hL.drewN n⟩

/-- The code points, step by step from a place on. -/
def pointsF (len : Nat) (f : Nat → Int) : Nat → Nat → List Int
  | 0, _ => []
  | k + 1, p => if len ≤ p then [] else ptF (fun i => f (p + i)) (stepF (len - p) fun i => f (p + i)).1 :: pointsF len f k (p + (stepF (len - p) fun i => f (p + i)).1)
def points (len : Nat) (f : Nat → Int) : List Int := pointsF len f len 0

theorem ptF_bd (r : Nat) (g : Nat → Int) (n : Nat) (lo : ∀ i, 0 ≤ g i) (h : stepF r g = (n, true)) : 0 ≤ ptF g n ∧ ptF g n ≤ 1114111 := by
  have := lo 0
  rcases step_bytes r g n h with ⟨rfl, a⟩ | ⟨rfl, l, a⟩ | ⟨rfl, l, a⟩ | ⟨rfl, l, a⟩
  all_goals simp [ptF]
  all_goals omega

theorem own_iterAt {w : World} {base : Nat} {e : TypeId} {size : Nat} {v : Value} {n : Nat} {xs : List Value} (h : w.ownsRow base e size v n xs) {k : Nat} {s : ByteArray} {p : Nat} (hk : w.heap[k]? = some (.stringIter s p)) (p' : Nat) : (w.iterAt k s p').ownsRow base e size v n xs := by
  obtain ⟨h1, h2⟩ := h
  refine ⟨h1, ?_⟩
  rcases h2 with h2 | ⟨g, cap, cur, a, b, c, d⟩
  · exact .inl h2
  · have hne : g ≠ k := by
      intro e1
      rw [e1, hk] at c
      cases c
    exact .inr ⟨g, cap, cur, a, b, by rw [Lib.iterAt_other _ _ _ _ _ hne]; exact c, d⟩
theorem own_ne_iter {w : World} {base : Nat} {e : TypeId} {size : Nat} {v : Value} {n : Nat} {xs : List Value} (h : w.ownsRow base e size v n xs) {k : Nat} {s : ByteArray} {p : Nat} (hk : w.heap[k]? = some (.stringIter s p)) : some k ≠ v.ownBlock := by
  rcases h.2 with ⟨rfl, _⟩ | ⟨g, cap, cur, rfl, b, c, d⟩
  · simp [Value.ownBlock]
  · simp only [Value.ownBlock, ne_eq, Option.some.injEq]
    intro e1
    rw [← e1, hk] at c
    cases c

/-- What stands at the head of each round. -/
def PtRel (len : Nat) (f : Nat → Int) (w : World) (B : Nat) (v : Value) (wr : World) : Prop :=
  ∃ (p k : Nat) (xs : List Int), p ≤ len ∧ len ≤ p + k ∧ (goodF len f k p).2 = true ∧ xs ++ pointsF len f k p = points len f ∧ wr.ownsRow B 3 1 v xs.length (xs.map (Value.int .i64)) ∧
    wr.heap[B + 1]? = some (.stringIter (txt len f) p) ∧ Below B w wr ∧ xs.length ≤ p

theorem PtRel_start (len : Nat) (f : Nat → Int) (w : World) (q c : Nat) (hm : c ≤ maxLen) (hg : (good len f).2 = true) :
    PtRel len f w w.heap.size (.slice (some ⟨w.heap.size, 0, none⟩) 0 c) (((w.drewN q).alloc (.cells (madeCells #[.int .i64 0] c) 3)).iter (txt len f) 0) := by
  refine ⟨0, len, [], Nat.zero_le _, by omega, hg, rfl, ?_, ?_, ?_, Nat.zero_le _⟩
  · have := World.ownsRow_made (base := w.heap.size) (e := 3) (size := 1) (w.drewN q) (madeCells #[.int .i64 0] c) c (by simp) hm (by have := size_madeCells #[Value.int .i64 0] (c * 1); simpa using this)
    exact World.ownsRow.alloc (by simpa using this) _
  · have := World.iter_heap ((w.drewN q).alloc (.cells (madeCells #[.int .i64 0] c) 3)) (txt len f) 0
    simpa using this
  · exact ((below_drewN (Below.refl _ _) q).alloc (by simp) _).alloc (by simp) _

/-- What the append leaves. -/
theorem PtRel_next (len : Nat) (f : Nat → Int) (w : World) (B : Nat) (v v' : Value) (w2 w3 : World) (o : Obj) (p k n : Nat) (xs : List Int) (pt : Int)
    (hlt : p < len) (hk : len ≤ p + (k + 1)) (hs : stepF (len - p) (fun i => f (p + i)) = (n, true)) (hpt : pt = ptF (fun i => f (p + i)) n)
    (hg : (goodF len f (k + 1) p).2 = true) (hx : xs ++ pointsF len f (k + 1) p = points len f) (hit : w2.heap[B + 1]? = some (.stringIter (txt len f) (p + n)))
    (hown2 : w2.ownsRow B 3 1 v xs.length (xs.map (Value.int .i64))) (hb2 : Below B w w2) (hB : B ≤ w2.heap.size) (hl : xs.length ≤ p)
    (hown : w3.ownsRow B 3 1 v' (xs.length + 1) (xs.map (Value.int .i64) ++ [.int .i64 pt])) (hgrow : (w2.alloc o).grownBy w3 v.ownBlock) : PtRel len f w B v' w3 ∧ len - w3.iterPos (B + 1) < len - p := by
  have hn := stepF_le (len - p) (fun i => f (p + i)) (by omega)
  have hn1 := stepF_pos (len - p) (fun i => f (p + i))
  have e1 : (stepF (len - p) fun i => f (p + i)).1 = n := by rw [hs]
  have e2 : (stepF (len - p) fun i => f (p + i)).2 = true := by rw [hs]
  rw [e1] at hn hn1
  have hn1 := hn1 e2
  have hlt2 : B + 1 < w2.heap.size := (Array.getElem?_eq_some_iff.1 hit).1
  have hit3 : w3.heap[B + 1]? = some (.stringIter (txt len f) (p + n)) := by
    rw [hgrow.block (B + 1) (by simp; omega) (own_ne_iter hown2 hit)]
    rw [Below.heap_alloc _ _ _ hlt2]; exact hit
  refine ⟨⟨p + n, k, xs ++ [pt], by omega, by omega, ?_, ?_, ?_, hit3, ?_, by simp; omega⟩, by rw [iterPos_of hit3]; omega⟩
  · unfold goodF at hg
    rw [if_neg (by omega), if_pos e2, e1] at hg
    exact hg
  · unfold pointsF at hx
    rw [if_neg (by omega), e1, ← hpt] at hx
    simpa using hx
  · simpa using hown
  · exact (hb2.alloc hB o).grown hgrow (by simp; omega) (fun j hj => (hown2.lt j hj).1)

set_option maxHeartbeats 400000 in
theorem points_some (v : Value) (len : Nat) (f : Nat → Int) (w : World) (hT : Tab w) (hR : Row w v len f) (lo : ∀ i, 0 ≤ f i) (up : ∀ i, f i < 256) (hm : len ≤ 17592186044416) (hg : (good len f).2 = true) :
    Calls Tryz.prog 39 #[v] w fun e w' => ∃ r, e = .returned (.tuple #[r, .int .i64 0]) ∧ w'.ownsRow w.heap.size 3 1 r (points len f).length ((points len f).map (Value.int .i64)) ∧ Below w.heap.size w w' := by
  obtain ⟨i0, hi, hz0, hz1, hz2⟩ := info_parts info3
  have hgood : Calls Tryz.prog 47 #[v] w fun e w' => e = .returned (.tuple #[.int .i64 ((good len f).1 : Nat), .bool true]) ∧ ∃ n, w' = w.drewN n := by rw [← hg]; exact good_any v len f w hT hR
  have hconv : ∀ q, (convert 40 9 v).run Tryz.prog (w.drewN q) = .ok (.string (txt len f)) (w.drewN q) := fun q => conv_row _ _ _ _ (hR.drewN q)
  have hcnt := fun w => count_any (txt len f) w (by rw [txt_size]; unfold maxLen; omega)
  have hcb := countS_le (txt len f).data.toList
  have hcl : (txt len f).data.toList.length = len := txt_size len f
  obtain ⟨c, hc⟩ : ∃ c : Nat, countS (txt len f).data.toList = c := ⟨(countS (txt len f).data.toList).toNat, by omega⟩
  rw [hc] at hcnt hcb
  have hmk : ∀ w, (Instr.makeSlice 57 (.int .i64 0) (.int .i64 (c : Int))).run Tryz.prog w = .ok (.slice (some ⟨w.heap.size, 0, none⟩) 0 c) (w.alloc (.cells (madeCells #[.int .i64 0] c) 3)) := by
    intro w
    have := run_make (P := Tryz.prog) w 57 3 i0 (.int .i64 0) Tryz.underlying57 hi hz0 .i64 .i64 0 (c : Int) (by omega) (by omega) (by rw [hz2]; omega) (by omega)
    rw [hz1] at this
    simpa [Value.cells] using this
  have hcntw : ∀ w, Calls Tryz.prog 48 #[.string (txt len f)] w fun e w' => e = .returned (.int .i64 (c : Int)) ∧ w = w' := fun w => (hcnt w).mono fun e w' h => ⟨h.1, h.2.symm⟩
  have hcm : c ≤ maxLen := by unfold maxLen; omega
  have HG : Hid ((good len f).2 = true) := hg
  have HC : Hid (countS (txt len f).data.toList = c) := hc
  clear hcnt hc hg
  go_enter Tryz.func39, Tryz.ntmps39
  go_wp2_with (first | (go_at_call 47; refine hgood.mono ?_; rintro e w' ⟨rfl, q, rfl⟩) | (go_at_call 48; refine (hcntw _).mono ?_; rintro e w' ⟨rfl, rfl⟩))
  clear hgood hconv hmk hcntw
  go_loopw [7] (fun t wr => PtRel len f w w.heap.size t wr) (fun _ wr => len - wr.iterPos (w.heap.size + 1))
  case atStart => exact PtRel_start len f w q c hcm HG.out
  case round =>
    obtain ⟨p, k, xs, hp, hk, hgk, hx, hown, hit, hb, hxl⟩ := hrel
    by_cases hlt : p < len
    · obtain ⟨k', rfl⟩ : ∃ k', k = k' + 1 := ⟨k - 1, by omega⟩
      obtain ⟨n, hs⟩ : ∃ n, stepF (len - p) (fun i => f (p + i)) = (n, true) := by
        have := hgk
        unfold goodF at this
        rw [if_neg (by omega)] at this
        by_cases z : (stepF (len - p) fun i => f (p + i)).2 = true
        · exact ⟨_, Prod.ext rfl z⟩
        · rw [if_neg z] at this; cases this
      have hdec := decode_step (txt len f) p (len - p) n (fun i => f (p + i)) (fun i hi => txt_at len f lo up (p + i) (by omega)) (by rw [txt_size]; omega) (by omega) hs
      have hbd := ptF_bd _ _ _ (fun i => lo (p + i)) hs
      obtain ⟨pt, hpt⟩ : ∃ pt, pt = ptF (fun i => f (p + i)) n := ⟨_, rfl⟩
      rw [← hpt] at hdec hbd
      have hnx := fun ty => Lib.run_next_any_at (P := Tryz.prog) wr (w.heap.size + 1) (txt len f) p ty hit (by rw [txt_size]; exact hlt)
      rw [hdec] at hnx
      obtain ⟨w2, hw2⟩ : ∃ w2, w2 = wr.iterAt (w.heap.size + 1) (txt len f) (p + n) := ⟨_, rfl⟩
      have hit2 : w2.heap[w.heap.size + 1]? = some (.stringIter (txt len f) (p + n)) := by rw [hw2]; exact Lib.iterAt_heap _ _ _ _ _ hit
      have hown2 : w2.ownsRow w.heap.size 3 1 u7 xs.length (xs.map (Value.int .i64)) := by rw [hw2]; exact own_iterAt hown hit _
      have hb2 : Below w.heap.size w w2 := by rw [hw2]; exact Lib.below_iterAt hb (by omega) _ _
      have hsz : w.heap.size ≤ w2.heap.size := hb2.size
      have hnx2 : ∀ ty, (Instr.next (.pointer (some ⟨w.heap.size + 1, 0, none⟩)) true ty).run Tryz.prog wr = .ok (.tuple #[.bool true, .int .i64 p, .int .i32 pt]) w2 := by
        intro ty; rw [hnx ty, hw2]; simp; omega
      have HPN := fun v' w3 o h g => PtRel_next len f w w.heap.size u7 v' w2 w3 o p k' n xs pt hlt hk hs hpt hgk hx hit2 hown2 hb2 hsz hxl h g
      have hip := iterPos_of hit
      clear hw2 hnx hdec hs hpt hgk hx hit hown hb
      go_wp2_with (at_builtin; refine wpList_append_own _ rfl _ _ 57 rfl w.heap.size 3 i0 (.int .i64 0) 1 8 Tryz.underlying57 hi hz0 hz1 hz2 rfl (by decide) _ _ _ rfl (hown2.alloc _) ⟨w2.heap.size, 0, none⟩ 1 1 [.int .i64 pt] rfl rfl ?c1 ?c2 ?c3 ?c4 ?c5 ?_)
      case c1 =>
        intro j u hj
        match j, hj with
        | 0, hj => simp at hj; subst hj; simp [Addr.add]
      case c2 => intro u hu; simp at hu; subst hu; rfl
      case c3 => unfold maxLen; omega
      case c4 => omega
      case c5 => simp; omega
      · intro v' w3 hown3 hgrow3 _
        obtain ⟨R1, R2⟩ := HPN v' w3 _ hown3 hgrow3
        have HR : Hid (PtRel len f w w.heap.size v' w3) := R1
        have HM : Hid (len - w3.iterPos (w.heap.size + 1) < len - p) := R2
        clear R1 R2 HPN hown3 hgrow3 hown2 hit2 hb2
        go_wp2
        go_roundw
        case rel => exact HR.out
        case measure => rw [hip]; exact HM.out
    · have e : p = len := by omega
      subst e
      have hnx := fun ty => Lib.run_next_end_at (P := Tryz.prog) wr (w.heap.size + 1) (txt p f) p ty hit (by rw [txt_size]; omega)
      have hxx : xs = points p f := by
        rw [← hx]
        cases k with
        | zero => simp [pointsF]
        | succ k => simp [pointsF]
      subst hxx
      clear hit hgk hx
      go_wp2
      go_ret2
      exact ⟨_, rfl, hown, hb⟩

set_option maxHeartbeats 400000 in
theorem points_none (v : Value) (len : Nat) (f : Nat → Int) (w : World) (hT : Tab w) (hR : Row w v len f) (hg : (good len f).2 = false) :
    Calls Tryz.prog 39 #[v] w fun e w' => e = .returned (.tuple #[.slice none 0 0, .int .i64 10]) ∧ ∃ n, w' = w.drewN n := by
  have hgood : Calls Tryz.prog 47 #[v] w fun e w' => e = .returned (.tuple #[.int .i64 ((good len f).1 : Nat), .bool false]) ∧ ∃ n, w' = w.drewN n := by rw [← hg]; exact good_any v len f w hT hR
  go_enter Tryz.func39, Tryz.ntmps39
  go_wp2_with (go_at_call 47; refine hgood.mono ?_; rintro e w' ⟨rfl, q, rfl⟩)
  go_ret2
  exact ⟨rfl, _, rfl⟩
end Go.Proofs.YtppilokmgdpnnaaGreatDoor
