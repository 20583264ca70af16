/-
  What value.compareObjects answers of objects with as many members. Conditions: at most 2^40 members.
  How kinds are compared. No condition.
  What value.Unique answers, where value.Compare answers for the elements. Conditions: at most 2^40 elements.
  The first unlike ones of two rows, as rows are compared. No condition.
-/
import Derived.Test.YtjdboekanmfgpaaGreatDoorJoined19
import Derived.Deep.DeepCutAuto
namespace Go.Proofs.YtjdboekanmfgpaaGreatDoor
open Go.RowKit Go.Lib Go.Sort
attribute [local go_sem] setCell_drewN alloc_drewN
set_option linter.unusedSimpArgs false

theorem OneAt.on {w0 w1 : World} {g : FuncId} {cb : Array Value} {n : Nat} {c : Nat → Int} (h : OneAt w0 g cb n c) (hb : Below w0.heap.size w0 w1) : OneAt w1 g cb n c :=
  ⟨h.1, fun w' hw i hi => h.2 w' (hb.trans (hw.mono hb.size)) i hi⟩
/-- What stands behind the two risings. -/
def LikeP (w W : World) (N : Nat) (ka kb : List ByteArray) (s6 s7 : Value) (wx : World) : Prop :=
  ∃ PA PB ps qs pao pcap qao qcap, s6 = .pointer (some ⟨PA, 0, none⟩) ∧ s7 = .pointer (some ⟨PB, 0, none⟩) ∧ wx.cell? ⟨PA, 0, none⟩ = some (.slice pao N pcap) ∧ wx.cell? ⟨PB, 0, none⟩ = some (.slice qao N qcap) ∧ SortedBy (byK ka) N ps ∧ SortedBy (byK kb) N qs ∧
    II wx (· < w.heap.size) (pI ps) (.slice pao N pcap) ∧ II wx (· < w.heap.size) (pI qs) (.slice qao N qcap) ∧ Below W.heap.size W wx
theorem like_of {w W w6 w7 wx : World} {N Bp Bq PA PB : Nat} {ka kb : List ByteArray} {ps qs : List Nat} {pao qao : Option Addr} {pcap qcap : Nat}
    (hp : Hid (SortedBy (byK ka) N ps ∧ II w6 (· < Bp) (pI ps) (.slice pao N pcap))) (hq : Hid (SortedBy (byK kb) N qs ∧ II w7 (· < Bq) (pI qs) (.slice qao N qcap))) (hBp : w.heap.size ≤ Bp) (hBq : w.heap.size ≤ Bq)
    (h1 : ∀ b, Bp ≤ b → b < w6.heap.size → wx.heap[b]? = w6.heap[b]?) (h2 : ∀ b, Bq ≤ b → b < w7.heap.size → wx.heap[b]? = w7.heap[b]?) (c1 : wx.cell? ⟨PA, 0, none⟩ = some (.slice pao N pcap)) (c2 : wx.cell? ⟨PB, 0, none⟩ = some (.slice qao N qcap)) (hb : Below W.heap.size W wx) :
    LikeP w W N ka kb (.pointer (some ⟨PA, 0, none⟩)) (.pointer (some ⟨PB, 0, none⟩)) wx :=
  ⟨PA, PB, ps, qs, pao, pcap, qao, qcap, rfl, rfl, c1, c2, hp.out.1, hq.out.1, hp.out.2.carry fun b hx hlt => ⟨h1 b (Nat.le_of_not_lt hx) hlt, by omega⟩, hq.out.2.carry fun b hx hlt => ⟨h2 b (Nat.le_of_not_lt hx) hlt, by omega⟩, hb⟩
theorem new_sc (w : World) (a : Addr) (u c : Value) (T : TypeId) : ((w.setCell a u).alloc (.cells #[c] T)).cell? ⟨w.heap.size, 0, none⟩ = some c := by
  have h := World.cell?_alloc_new (w.setCell a u) #[c] T 0
  rw [World.size_setCell] at h
  simpa using h
theorem al1 {w : World} {o : Obj} {b : Nat} (h : b < w.heap.size) : b < (w.alloc o).heap.size := by rw [World.size_alloc]; omega
theorem frz_lt {w : World} {o : Obj} {a : Addr} (h : a.block < w.heap.size) : (w.alloc o).frozen? a = w.frozen? a := World.frozen?_alloc_old w o a (Nat.ne_of_lt h)
theorem up_lt {w : World} {o : Obj} {n : Nat} (h : (w.alloc o).heap.size ≤ n) : w.heap.size < n := by rw [World.size_alloc] at h; exact h
theorem up_lt2 {w : World} {o o' : Obj} {n : Nat} (h : ((w.alloc o).alloc o').heap.size ≤ n) : w.heap.size < n ∧ w.heap.size + 1 < n := by rw [World.size_alloc, World.size_alloc] at h; omega
theorem up_size {w : World} {o : Obj} {n : Nat} (h : (w.alloc o).heap.size ≤ n) : w.heap.size + 1 ≤ n := by rw [World.size_alloc] at h; exact h
attribute [local go_sem] World.cell?_alloc_lt frz_lt
theorem II.ofN {w : World} {X : Nat → Prop} {cf : Nat → Nat → Int} {N : Nat} {ps : List Nat} {v : Value} (h : II w X (pI ps) v) (hs : SortedBy cf N ps) : ∃ ao cap, v = .slice ao N cap := by
  obtain ⟨ao, cap, rfl, _⟩ := h
  exact ⟨ao, cap, by rw [pI_len, hs.1.length_eq, List.length_range]⟩
set_option maxRecDepth 100000 in
set_option maxHeartbeats 4000000 in
theorem objects_like (n n' : Bool) (g g' : ByteArray) (e e' : Int) (t t' : ByteArray) (ao ao' ko ko' : Option Addr) (lc lc' kc' kc'' : Nat) (ll ll' : Nat) (ka kb : List ByteArray) (hl : ll ≤ 1099511627776) (hl' : ll' ≤ 1099511627776) (k k' : Int) (w : World) (N : Nat) (hN : min ka.length ll = N) (hN2 : min kb.length ll' = N)
    (hka : SI w (fun _ => False) ka (.slice ko ka.length kc')) (hkb : SI w (fun _ => False) kb (.slice ko' kb.length kc''))
    (la lb : List JV) (G G' : Nat → Nat → Value) (hla : LI w (fun _ => False) la (.slice ao ll lc) G) (hlb : LI w (fun _ => False) lb (.slice ao' ll' lc') G') (cV : Nat → Nat → Int)
    (hcV : ∀ w', Below w.heap.size w w' → ∀ i j, i < la.length → j < lb.length → Calls Tryz.prog 16 #[va (G i), va (G' j)] w' fun r w'' => r = .returned (.int .i64 (cV i j)) ∧ Below w'.heap.size w' w'') :
    Calls Tryz.prog 42 #[.agg #[.int .i64 k, .bool n, .string g, .int .i64 e, .string t, .slice ao ll lc, .slice ko ka.length kc'], .agg #[.int .i64 k', .bool n', .string g', .int .i64 e', .string t', .slice ao' ll' lc', .slice ko' kb.length kc'']] w
      fun r w' => ∃ ps qs, SortedBy (byK ka) N ps ∧ SortedBy (byK kb) N qs ∧ r = .returned (.int .i64 (th (fu (fun i => kc (ka.getD (ps.getD i 0) ByteArray.empty) (kb.getD (qs.getD i 0) ByteArray.empty)) 0 N) (fu (fun i => cV (ps.getD i 0) (qs.getD i 0)) 0 N))) ∧ Below w.heap.size w w' := by
  obtain ⟨P, hP⟩ : ∃ P : Ending → World → Prop, P = fun r w' => ∃ ps qs, SortedBy (byK ka) N ps ∧ SortedBy (byK kb) N qs ∧ r = .returned (.int .i64 (th (fu (fun i => kc (ka.getD (ps.getD i 0) ByteArray.empty) (kb.getD (qs.getD i 0) ByteArray.empty)) 0 N) (fu (fun i => cV (ps.getD i 0) (qs.getD i 0)) 0 N))) ∧ Below w.heap.size w w' := ⟨_, rfl⟩
  rw [← hP]
  have HP := hid_intro hP
  obtain ⟨W, hW⟩ : ∃ W, vbox (vbox w k n g e t (.slice ao ll lc) (.slice ko ka.length kc')) k' n' g' e' t' (.slice ao' ll' lc') (.slice ko' kb.length kc'') = W := ⟨_, rfl⟩
  have hbW : Below w.heap.size w W := hW ▸ vb_a (vb_a (Below.refl _ _) _) _
  have hs1 : w.heap.size < W.heap.size := by rw [← hW]; simp [vbox]; omega
  have hs2 : w.heap.size + 1 < W.heap.size := by rw [← hW]; simp [vbox]
  have cA : ∀ o, W.cell? ⟨w.heap.size, o, none⟩ = (#[.int .i64 k, .bool n, .string g, .int .i64 e, .string t, .slice ao ll lc, .slice ko ka.length kc'] : Array Value)[o]? := fun o => by rw [← hW]; unfold vbox; simp
  have cB : ∀ o, W.cell? ⟨w.heap.size + 1, o, none⟩ = (#[.int .i64 k', .bool n', .string g', .int .i64 e', .string t', .slice ao' ll' lc', .slice ko' kb.length kc''] : Array Value)[o]? := fun o => by rw [← hW]; unfold vbox; simp
  have HS : Hid (∀ w', Below W.heap.size W w' → (∀ o, w'.cell? ⟨w.heap.size, o, none⟩ = (#[.int .i64 k, .bool n, .string g, .int .i64 e, .string t, .slice ao ll lc, .slice ko ka.length kc'] : Array Value)[o]?) ∧ (∀ o, w'.cell? ⟨w.heap.size + 1, o, none⟩ = (#[.int .i64 k', .bool n', .string g', .int .i64 e', .string t', .slice ao' ll' lc', .slice ko' kb.length kc''] : Array Value)[o]?)) :=
    hid_intro (fun w' hb => ⟨fun o => (hb.cell (p := ⟨w.heap.size, o, none⟩) hs1).trans (cA o), fun o => (hb.cell (p := ⟨w.heap.size + 1, o, none⟩) hs2).trans (cB o)⟩)
  have HM : Hid (∀ w', Below W.heap.size W w' → Calls Tryz.prog 49 #[.agg #[.int .i64 k, .bool n, .string g, .int .i64 e, .string t, .slice ao ll lc, .slice ko ka.length kc']] w' fun r w'' => r = .returned (.int .i64 (N : Int)) ∧ Below W.heap.size W w'') := hid_intro (fun w' hb => (members_any k n g e t ao ko ll lc ka.length kc' w').mono fun r w'' ⟨h1, h2⟩ => ⟨by rw [h1, hN], vb_t hb h2⟩)
  have HM2 : Hid (∀ w', Below W.heap.size W w' → Calls Tryz.prog 49 #[.agg #[.int .i64 k', .bool n', .string g', .int .i64 e', .string t', .slice ao' ll' lc', .slice ko' kb.length kc'']] w' fun r w'' => r = .returned (.int .i64 (N : Int)) ∧ Below W.heap.size W w'') := hid_intro (fun w' hb => (members_any k' n' g' e' t' ao' ko' ll' lc' kb.length kc'' w').mono fun r w'' ⟨h1, h2⟩ => ⟨by rw [h1, hN2], vb_t hb h2⟩)
  have HCI : Hid (∀ w', Below W.heap.size W w' → Calls Tryz.prog 73 #[.int .i64 (N : Int), .int .i64 (N : Int)] w' fun r w'' => r = .returned (.int .i64 0) ∧ Below W.heap.size W w'') := hid_intro (fun w' hb =>
    (vcmp_int _ _ w').mono fun r w'' ⟨h1, h2⟩ => ⟨by rw [h1, si_ci, si_refl], by rw [h2]; exact hb⟩)
  have HR : Hid (∀ w', Below W.heap.size W w' → Calls Tryz.prog 44 #[.agg #[.int .i64 k, .bool n, .string g, .int .i64 e, .string t, .slice ao ll lc, .slice ko ka.length kc']] w' fun r w'' => ∃ ps ao cap, r = .returned (.slice ao N cap) ∧ Hid (SortedBy (byK ka) N ps ∧ II w'' (· < w'.heap.size) (pI ps) (.slice ao N cap)) ∧ Below W.heap.size W w'' ∧ Below w'.heap.size w' w'') := hid_intro (fun w' hb => by
    have hbb : Below w.heap.size w w' := vb_t hbW hb
    refine (rising_any k n g e t ao ko ll lc kc' ka hl w' (hka.carry fun b _ hlt => ⟨hbb.block b hlt, fun h => h⟩)).mono ?_
    rintro r w'' ⟨ps, v, h1, h2, h3, h4⟩
    rw [hN] at h2
    obtain ⟨ax, cx, rfl⟩ := h3.ofN h2
    exact ⟨ps, ax, cx, h1, ⟨h2, h3⟩, vb_t hb h4, h4⟩)
  have HR2 : Hid (∀ w', Below W.heap.size W w' → Calls Tryz.prog 44 #[.agg #[.int .i64 k', .bool n', .string g', .int .i64 e', .string t', .slice ao' ll' lc', .slice ko' kb.length kc'']] w' fun r w'' => ∃ ps ao cap, r = .returned (.slice ao N cap) ∧ Hid (SortedBy (byK kb) N ps ∧ II w'' (· < w'.heap.size) (pI ps) (.slice ao N cap)) ∧ Below W.heap.size W w'' ∧ Below w'.heap.size w' w'') := hid_intro (fun w' hb => by
    have hbb : Below w.heap.size w w' := vb_t hbW hb
    refine (rising_any k' n' g' e' t' ao' ko' ll' lc' kc'' kb hl' w' (hkb.carry fun b _ hlt => ⟨hbb.block b hlt, fun h => h⟩)).mono ?_
    rintro r w'' ⟨ps, v, h1, h2, h3, h4⟩
    rw [hN2] at h2
    obtain ⟨ax, cx, rfl⟩ := h3.ofN h2
    exact ⟨ps, ax, cx, h1, ⟨h2, h3⟩, vb_t hb h4, h4⟩)
  have hNs : N ≤ 1099511627776 := by omega
  have hla1 : ll = la.length := by
    obtain ⟨_, _, h, _⟩ := hla
    injection h
  have hlb1 : ll' = lb.length := by
    obtain ⟨_, _, h, _⟩ := hlb
    injection h
  have HREST : Hid (∀ (PA PB : Nat) (ps qs : List Nat) (pv qv : Value) (wx : World), wx.cell? ⟨PA, 0, none⟩ = some pv → wx.cell? ⟨PB, 0, none⟩ = some qv → SortedBy (byK ka) N ps → SortedBy (byK kb) N qs → II wx (· < w.heap.size) (pI ps) pv → II wx (· < w.heap.size) (pI qs) qv → Below W.heap.size W wx →
      OneAt wx 76 #[.pointer (some ⟨w.heap.size, 0, none⟩), .pointer (some ⟨PA, 0, none⟩), .pointer (some ⟨w.heap.size + 1, 0, none⟩), .pointer (some ⟨PB, 0, none⟩)] N (fun i => kc (ka.getD (ps.getD i 0) ByteArray.empty) (kb.getD (qs.getD i 0) ByteArray.empty)) ∧
      OneAt wx 77 #[.pointer (some ⟨w.heap.size, 0, none⟩), .pointer (some ⟨PA, 0, none⟩), .pointer (some ⟨w.heap.size + 1, 0, none⟩), .pointer (some ⟨PB, 0, none⟩)] N (fun i => cV (ps.getD i 0) (qs.getD i 0))) := hid_intro (fun PA PB ps qs pv qv wx c1 c2 s1 s2 i1 i2 hbx => by
    have get : ∀ {cf : Nat → Nat → Int} {l : List Nat}, SortedBy cf N l → ∀ i, i < N → i < l.length ∧ l.getD i 0 < N := fun {cf l} hs i hi => by
      have hl : l.length = N := by rw [hs.1.length_eq, List.length_range]
      exact ⟨by omega, List.mem_range.1 (hs.1.mem_iff.1 (by rw [List.getD_eq_getElem?_getD, List.getElem?_eq_getElem (by omega)]; exact List.getElem_mem _))⟩
    refine ⟨⟨enters_keyPair, fun w' hb i hi => ?_⟩, ⟨enters_valPair, fun w' hb i hi => ?_⟩⟩
    · have hbb := vb_t hbx hb
      have hbw := vb_t hbW hbb
      obtain ⟨sA, sB⟩ := HS.out w' hbb
      exact keyPair_any w' w.heap.size (w.heap.size + 1) PA PB ps qs pv qv _ _ ((hb.cell (World.block_lt_of_cell? _ _ c1)).trans c1) ((hb.cell (World.block_lt_of_cell? _ _ c2)).trans c2) _ (i1.kept hb) (i2.kept hb) i (get s1 i hi).1 (get s2 i hi).1 ka kb (sA 6) (sB 6)
        (hka.carry fun b _ hlt => ⟨hbw.block b hlt, fun h => h⟩) (hkb.carry fun b _ hlt => ⟨hbw.block b hlt, fun h => h⟩) (by have := (get s1 i hi).2; omega) (by have := (get s2 i hi).2; omega)
    · have hbb := vb_t hbx hb
      have hbw := vb_t hbW hbb
      obtain ⟨sA, sB⟩ := HS.out w' hbb
      exact valPair_any w' w.heap.size (w.heap.size + 1) PA PB ps qs pv qv _ _ ((hb.cell (World.block_lt_of_cell? _ _ c1)).trans c1) ((hb.cell (World.block_lt_of_cell? _ _ c2)).trans c2) _ (i1.kept hb) (i2.kept hb) i (get s1 i hi).1 (get s2 i hi).1 la lb G G' (sA 5) (sB 5)
        (hla.kept hbw) (hlb.kept hbw) (by have := (get s1 i hi).2; omega) (by have := (get s2 i hi).2; omega) _ (fun w'' hb' => hcV w'' (vb_t hbw hb') _ _ (by have := (get s1 i hi).2; omega) (by have := (get s2 i hi).2; omega)))
  have HNS := hid_intro hNs
  have HBW := hid_intro hbW
  unfold vbox at hW
  clear hP hbW cA cB hN hN2 hka hkb hl hl' hs1 hs2 hla hlb hcV hla1 hlb1 hNs
  go_enter Tryz.func42, Tryz.ntmps42
  go_wp2_with fail
  go_region_held3 (fun w' => (∀ o, w'.cell? ⟨w.heap.size, o, none⟩ = (#[.int .i64 k, .bool n, .string g, .int .i64 e, .string t, .slice ao ll lc, .slice ko ka.length kc'] : Array Value)[o]?) ∧ (∀ o, w'.cell? ⟨w.heap.size + 1, o, none⟩ = (#[.int .i64 k', .bool n', .string g', .int .i64 e', .string t', .slice ao' ll' lc', .slice ko' kb.length kc''] : Array Value)[o]?)) (first | (refine HS.out _ ?_; with_reducible repeat (first | exact Below.refl _ _ | exact hc | refine vb_d ?_)) | fail) (first | (go_at_call 49; with_reducible refine (HM.out _ ?_).mono ?_; (with_reducible repeat (first | exact Below.refl _ _ | exact hc | refine vb_d ?_)); rintro r w3 ⟨rfl, hc⟩) | (go_at_call 49; with_reducible refine (HM2.out _ ?_).mono ?_; (with_reducible repeat (first | exact Below.refl _ _ | exact hc | refine vb_d ?_)); rintro r w4 ⟨rfl, hc⟩) | (go_at_call 73; refine (HCI.out _ ?_).mono ?_; (with_reducible repeat (first | exact hc | refine vb_d ?_)); rintro r w5 ⟨rfl, hc⟩) | fail)
  go_upto_region 4 with fail
  go_cut [6, 7] from 17 to 31 (fun s6 s7 wx => LikeP w W N ka kb s6 s7 wx)
  case first =>
    go_wp2_with fail
    go_region_held3 (fun w' => (∀ o, w'.cell? ⟨w.heap.size, o, none⟩ = (#[.int .i64 k, .bool n, .string g, .int .i64 e, .string t, .slice ao ll lc, .slice ko ka.length kc'] : Array Value)[o]?) ∧ (∀ o, w'.cell? ⟨w.heap.size + 1, o, none⟩ = (#[.int .i64 k', .bool n', .string g', .int .i64 e', .string t', .slice ao' ll' lc', .slice ko' kb.length kc''] : Array Value)[o]?)) (first | (refine HS.out _ ?_; with_reducible repeat (first | exact Below.refl _ _ | exact hc2 | exact hc1 | exact hc | refine vb_d ?_ | refine vb_a ?_ _ | refine vb_s ?_ (by first | exact hc2.size | exact hc1.size | exact hc.size | exact Nat.le_trans hc.size (Nat.le_succ _) | exact Nat.le_trans hc1.size (Nat.le_succ _) | exact Nat.le_trans hc2.size (Nat.le_succ _) | (simp; have := hc.size; omega)) _)) | fail) (first | (go_at_call 44; with_reducible refine (HR.out _ ?_).mono ?_; (with_reducible repeat (first | exact Below.refl _ _ | exact hc2 | exact hc1 | exact hc | refine vb_d ?_ | refine vb_a ?_ _ | refine vb_s ?_ (by first | exact hc2.size | exact hc1.size | exact hc.size | exact Nat.le_trans hc.size (Nat.le_succ _) | exact Nat.le_trans hc1.size (Nat.le_succ _) | exact Nat.le_trans hc2.size (Nat.le_succ _) | (simp; have := hc.size; omega)) _)); rintro r w6 ⟨ps, pao, pcap, rfl, hp, hc1, hk1⟩; have hcel1 := fun b o h => hk1.cell (p := ⟨b, o, none⟩) h; have hfrz1 := fun b o h => hk1.frozen (p := ⟨b, o, none⟩) h; (try have hle1 : w5.heap.size ≤ w6.heap.size := (by first | exact hk1.size | exact Nat.le_of_lt (up_lt (w := w5) hk1.size) | exact Nat.le_of_lt (up_lt2 (w := w5) hk1.size).1)); (first | (obtain ⟨hsz1, hsy1⟩ := up_lt2 (w := w5) hk1.size) | (have hsz1 := up_lt (w := w5) hk1.size) | skip); have HK1 := hid_intro hk1; clear hk1) | (go_at_call 44; with_reducible refine (HR2.out _ ?_).mono ?_; (with_reducible repeat (first | exact Below.refl _ _ | exact hc2 | exact hc1 | exact hc | refine vb_d ?_ | refine vb_a ?_ _ | refine vb_s ?_ (by first | exact hc2.size | exact hc1.size | exact hc.size | exact Nat.le_trans hc.size (Nat.le_succ _) | exact Nat.le_trans hc1.size (Nat.le_succ _) | exact Nat.le_trans hc2.size (Nat.le_succ _) | (simp; have := hc.size; omega)) _)); rintro r w7 ⟨qs, qao, qcap, rfl, hq, hc2, hk2⟩; have hcel2 := fun b o h => hk2.cell (p := ⟨b, o, none⟩) h; have hfrz2 := fun b o h => hk2.frozen (p := ⟨b, o, none⟩) h; (first | (obtain ⟨hsz2, hsy2⟩ := up_lt2 (w := w6) hk2.size) | (have hsz2 := up_lt (w := w6) hk2.size) | skip); have hle2 : w6.heap.size ≤ w7.heap.size := (by first | exact Nat.le_of_lt hsz2 | exact hk2.size); (try have hsu2 := Nat.lt_of_lt_of_le hsz1 hle2); (try have hsv2 := Nat.lt_of_lt_of_le hsy1 hle2); have HBK := hid_intro (show ∀ b, b < w6.heap.size → w7.heap[b]? = w6.heap[b]? from fun b hb => (by first | exact hk2.block b hb | exact (hk2.block b (al1 hb)).trans (Below.heap_alloc _ _ _ hb) | exact (hk2.block b (al1 (al1 hb))).trans ((Below.heap_alloc _ _ _ (al1 hb)).trans (Below.heap_alloc _ _ _ hb)))); have HK2 := hid_intro hk2; clear hk2) | fail)
    all_goals
      go_wp2_with fail
      go_meet
    all_goals
      have hd : ∀ v : World, v.drew.heap.size = v.heap.size := fun _ => rfl
      have hws := hc.size
      have hw0 := HBW.out.size
      have hc2s := hc2.size
      have hle1 := HK1.out.size
      have hle3 := HK2.out.size
      simp only [hd, World.size_alloc] at hle1 hle3
      refine like_of hp hq ?_ ?_ ?_ ?_ ?_ ?_ ?_
      · (try simp only [hd, World.size_alloc]); omega
      · (try simp only [hd, World.size_alloc]); omega
      · intro b g1 g2
        (try simp only [hd, World.size_alloc] at g1)
        refine Eq.trans ?_ (HBK.out b g2)
        repeat (first | ((with_reducible refine (Below.heap_setCell _ _ _ _ ?_).trans ?_); · (dsimp only; omega)) | ((with_reducible refine (Below.heap_alloc _ _ _ ?_).trans ?_); · ((try simp only [World.size_setCell, World.size_alloc]); omega)))
        rfl
      · intro b g1 g2
        (try simp only [hd, World.size_alloc] at g1)
        repeat (first | ((with_reducible refine (Below.heap_setCell _ _ _ _ ?_).trans ?_); · (dsimp only; omega)) | ((with_reducible refine (Below.heap_alloc _ _ _ ?_).trans ?_); · ((try simp only [World.size_setCell, World.size_alloc]); omega)))
        rfl
      · first
          | (simp; done)
          | (with_reducible exact new_sc _ _ _ _ _)
          | (repeat (first
              | (with_reducible refine World.cell?_setCell_same _ _ _ (u := .slice none 0 0) ?_)
              | ((with_reducible refine (World.cell?_setCell_other _ _ _ _ ?_).trans ?_); · (intro hh; have hh1 := congrArg Addr.block hh; dsimp only at hh1; omega))
              | ((with_reducible refine (World.cell?_alloc_lt _ _ _ ?_).trans ?_); · (dsimp only; (try simp only [hd, World.size_setCell, World.size_alloc]); omega))
              | ((with_reducible refine (hcel2 _ _ ?_).trans ?_); · ((try simp only [hd, World.size_alloc]); omega))
              | ((with_reducible refine (hcel1 _ _ ?_).trans ?_); · ((try simp only [hd, World.size_alloc]); omega))
              | (simp; done)
              | (simp [World.cell?_alloc_old]; done)))
      · first
          | (simp; done)
          | (with_reducible exact new_sc _ _ _ _ _)
          | (repeat (first
              | (with_reducible refine World.cell?_setCell_same _ _ _ (u := .slice none 0 0) ?_)
              | ((with_reducible refine (World.cell?_setCell_other _ _ _ _ ?_).trans ?_); · (intro hh; have hh1 := congrArg Addr.block hh; dsimp only at hh1; omega))
              | ((with_reducible refine (World.cell?_alloc_lt _ _ _ ?_).trans ?_); · (dsimp only; (try simp only [hd, World.size_setCell, World.size_alloc]); omega))
              | ((with_reducible refine (hcel2 _ _ ?_).trans ?_); · ((try simp only [hd, World.size_alloc]); omega))
              | ((with_reducible refine (hcel1 _ _ ?_).trans ?_); · ((try simp only [hd, World.size_alloc]); omega))
              | (simp; done)
              | (simp [World.cell?_alloc_old]; done)))
      · repeat (first | exact hc2 | refine vb_a ?_ _ | (refine vb_s ?_ ?_ _; rotate_left; · omega))
  case rest =>
    obtain ⟨PA, PB, ps, qs, pao, pcap, qao, qcap, rfl, rfl, c1, c2, s1, s2, i1, i2, hbx⟩ := hcut
    have hr := HREST.out PA PB ps qs _ _ wc c1 c2 s1 s2 i1 i2 hbx
    have f1 := fu_any N HNS.out _ _ _ wc hr.1
    have f2 := fun w1 (hb : Below wc.heap.size wc w1) => fu_any N HNS.out _ _ _ w1 (hr.2.on hb)
    have HF : Hid (∀ wz, Below wc.heap.size wc wz → P (.returned (.int .i64 (th (fu (fun i => kc (ka.getD (ps.getD i 0) ByteArray.empty) (kb.getD (qs.getD i 0) ByteArray.empty)) 0 N) (fu (fun i => cV (ps.getD i 0) (qs.getD i 0)) 0 N)))) wz) :=
      hid_intro (fun wz hz => by rw [HP.out]; exact ⟨ps, qs, s1, s2, rfl, vb_t HBW.out (vb_t hbx hz)⟩)
    generalize fu (fun i => kc (ka.getD (ps.getD i 0) ByteArray.empty) (kb.getD (qs.getD i 0) ByteArray.empty)) 0 N = x at *
    generalize fu (fun i => cV (ps.getD i 0) (qs.getD i 0)) 0 N = y at *
    have hmf : ∀ (fn : Fn) (first cap : Array Value) (w : World), (Instr.makeFunc fn first cap).run Tryz.prog w = .ok (.func fn first cap) w := fun _ _ _ _ => rfl
    have HF2 := hid_intro f2
    clear hr s1 s2 i1 i2 hbx HREST HM HM2 HCI HR HR2 f2
    cases hz : x == 0 with
    | false =>
      have hz' : (x != 0) = true := by rw [bne, hz]; rfl
      have hth : Hid (th x y = x) := hid_intro (by unfold th; rw [if_neg (by intro e; rw [e] at hz; cases hz)])
      go_wp2_with (first | (go_at_call 74; with_reducible refine f1.mono ?_; rintro r w8 ⟨rfl, hb8⟩))
      have := HF.out w8 hb8
      rw [hth.out] at this
      exact this
    | true =>
      have hz' : (x != 0) = false := by rw [bne, hz]; rfl
      have hth : Hid (th x y = y) := hid_intro (by unfold th; rw [if_pos (eq_of_beq hz)])
      go_wp2_with (first | (go_at_call 74; with_reducible refine f1.mono ?_; rintro r w8 ⟨rfl, hb8⟩; have d1 := (hb8.cell (World.block_lt_of_cell? _ _ c1)).trans c1; have d2 := (hb8.cell (World.block_lt_of_cell? _ _ c2)).trans c2) | (go_at_call 74; with_reducible refine (HF2.out _ hb8).mono ?_; rintro r w9 ⟨rfl, hb9⟩))
      have := HF.out w9 (vb_t hb8 hb9)
      rw [hth.out] at this
      exact this
end Go.Proofs.YtjdboekanmfgpaaGreatDoor

namespace Go.Proofs.YtjdboekanmfgpaaGreatDoor
open Go.RowKit Go.Lib Go.Sort
attribute [local go_sem] setCell_drewN alloc_drewN

theorem knan_any (k : Int) (w : World) : Calls Tryz.prog 69 #[.int .i64 k] w fun r w' => r = .returned (.bool false) ∧ w' = w := by
 go_enter Tryz.func69, Tryz.ntmps69
 go_wp2_with fail
 go_ret
 exact ⟨rfl, rfl⟩
set_option maxRecDepth 100000 in
set_option maxHeartbeats 1600000 in
theorem kcmp_any (a b : Int) (w : World) : Calls Tryz.prog 38 #[.int .i64 a, .int .i64 b] w fun r w' => r = .returned (.int .i64 (si a b)) ∧ w' = w := by
 have n1 := fun w' => knan_any a w'
 have n2 := fun w' => knan_any b w'
 by_cases h : a < b
 ·have hs : si a b = -1 := by unfold si; rw [if_pos h]
  rw [hs]
  clear hs
  go_enter Tryz.func38, Tryz.ntmps38
  go_wp2_with (first | (go_at_call 69; with_reducible refine (n1 _).mono ?_; rintro r w1 ⟨rfl, rfl⟩) | (go_at_call 69; with_reducible refine (n2 _).mono ?_; rintro r w1 ⟨rfl, rfl⟩))
  go_ret
  exact ⟨rfl, rfl⟩
 ·by_cases h2 : b < a
  ·have hs : si a b = 1 := by unfold si; rw [if_neg h, if_pos h2]
   rw [hs]
   clear hs
   go_enter Tryz.func38, Tryz.ntmps38
   go_wp2_with (first | (go_at_call 69; with_reducible refine (n1 _).mono ?_; rintro r w1 ⟨rfl, rfl⟩) | (go_at_call 69; with_reducible refine (n2 _).mono ?_; rintro r w1 ⟨rfl, rfl⟩))
   go_ret
   exact ⟨rfl, rfl⟩
  ·have hs : si a b = 0 := by unfold si; rw [if_neg h, if_neg h2]
   rw [hs]
   clear hs
   go_enter Tryz.func38, Tryz.ntmps38
   go_wp2_with (first | (go_at_call 69; with_reducible refine (n1 _).mono ?_; rintro r w1 ⟨rfl, rfl⟩) | (go_at_call 69; with_reducible refine (n2 _).mono ?_; rintro r w1 ⟨rfl, rfl⟩))
   go_ret
   exact ⟨rfl, rfl⟩
end Go.Proofs.YtjdboekanmfgpaaGreatDoor

namespace Go.Proofs.YtjdboekanmfgpaaGreatDoor
open Go.RowKit Go.Lib Go.Sort
attribute [local go_sem] setCell_drewN alloc_drewN

set_option maxRecDepth 100000 in
set_option maxHeartbeats 1600000 in
/-- Two elements of one list. -/
theorem twoOf_any (w : World) (B : Nat) (l : List JV) (lv : Value) (G : Nat → Nat → Value) (hB : w.cell? ⟨B, 0, none⟩ = some lv) (hl : LI w (fun _ => False) l lv G) (i j : Nat) (hi : i < l.length) (hj : j < l.length) (c : Int)
  (hc : ∀ w', Below w.heap.size w w' → Calls Tryz.prog 16 #[va (G i), va (G j)] w' fun r w'' => r = .returned (.int .i64 c) ∧ Below w'.heap.size w' w'') :
  Calls Tryz.prog 55 #[.int .i64 (i : Int), .int .i64 (j : Int), .pointer (some ⟨B, 0, none⟩)] w fun r w' => r = .returned (.int .i64 c) ∧ Below w.heap.size w w' := by
 have hm : l.length ≤ maxLen := hl.choose_spec.choose_spec.2.1
 obtain ⟨b, off, cap, rfl, hlt, ha⟩ := hl.at hi
 obtain ⟨b', off', cap', e, hlt', hb⟩ := hl.at hj
 injection e with e1 e2 e3
 injection e1 with e1
 injection e1 with e4 e5
 subst e4 e5 e3
 have hiI : (i : Int) < (l.length : Int) := by omega
 have hjI : (j : Int) < (l.length : Int) := by omega
 have hI0 : (0 : Int) ≤ (i : Int) := by omega
 have hJ0 : (0 : Int) ≤ (j : Int) := by omega
 have hm' : (l.length : Int) ≤ 9223372036854775807 := by unfold maxLen at hm; omega
 have mixed : Tryz.prog.follows .mixedOrders = true := by kernel_rfl
 have cB := fun q os => cell_grown (w := w) (a := ⟨B, 0, none⟩) (World.block_lt_of_cell? w _ hB) hB q os
 have a0 := fun q os => cell_grown (w := w) (a := ⟨b, off + i * 7, none⟩) hlt (ha 0 (by omega)) q os
 have b0 := fun q os => cell_grown (w := w) (a := ⟨b, off + j * 7, none⟩) hlt (hb 0 (by omega)) q os
 have a1 := fun q os => cell_grown (w := w) (a := ⟨b, off + i * 7 + 1, none⟩) hlt (ha 1 (by omega)) q os
 have b1 := fun q os => cell_grown (w := w) (a := ⟨b, off + j * 7 + 1, none⟩) hlt (hb 1 (by omega)) q os
 have a2 := fun q os => cell_grown (w := w) (a := ⟨b, off + i * 7 + 2, none⟩) hlt (ha 2 (by omega)) q os
 have b2 := fun q os => cell_grown (w := w) (a := ⟨b, off + j * 7 + 2, none⟩) hlt (hb 2 (by omega)) q os
 have a3 := fun q os => cell_grown (w := w) (a := ⟨b, off + i * 7 + 3, none⟩) hlt (ha 3 (by omega)) q os
 have b3 := fun q os => cell_grown (w := w) (a := ⟨b, off + j * 7 + 3, none⟩) hlt (hb 3 (by omega)) q os
 have a4 := fun q os => cell_grown (w := w) (a := ⟨b, off + i * 7 + 4, none⟩) hlt (ha 4 (by omega)) q os
 have b4 := fun q os => cell_grown (w := w) (a := ⟨b, off + j * 7 + 4, none⟩) hlt (hb 4 (by omega)) q os
 have a5 := fun q os => cell_grown (w := w) (a := ⟨b, off + i * 7 + 5, none⟩) hlt (ha 5 (by omega)) q os
 have b5 := fun q os => cell_grown (w := w) (a := ⟨b, off + j * 7 + 5, none⟩) hlt (hb 5 (by omega)) q os
 have a6 := fun q os => cell_grown (w := w) (a := ⟨b, off + i * 7 + 6, none⟩) hlt (ha 6 (by omega)) q os
 have b6 := fun q os => cell_grown (w := w) (a := ⟨b, off + j * 7 + 6, none⟩) hlt (hb 6 (by omega)) q os
 have hcx := fun q os => Up.calls_grow (hc (grow (w.drewN q) os) (vb_grow (Below.refl _ _) (Nat.le_refl _) q os))
 have HBR := hid_intro (fun q os => vb_grow (Below.refl w.heap.size w) (Nat.le_refl _) q os)
 unfold va at hcx
 clear hc ha hb hl hB hlt hlt' hm hi hj
 go_enter Tryz.func55, Tryz.ntmps55
 go_wp2_with fail
 go_quiet_grown (first | (go_at_call 16; refine Calls.grown_of (hcx _ _)))
 go_wp2_with fail
 go_ret
 exact ⟨rfl, HBR.out _ _⟩
theorem enters_twoOf : ∀ args w, (callFunc 55 args).run Tryz.prog w = .ok (.enter 55 args) w := enters_of Tryz.func55 (by kernel_rfl) rfl

set_option maxRecDepth 100000 in
set_option maxHeartbeats 1600000 in
theorem unique_any (l : List JV) (hn : l.length ≤ 1099511627776) (lv : Value) (G : Nat → Nat → Value) (w : World) (hl : LI w (fun _ => False) l lv G) (cV : Nat → Nat → Int) (hO : OrdAt l.length cV) (hA : AntiAt l.length cV)
  (hc : ∀ w', Below w.heap.size w w' → ∀ i j, i < l.length → j < l.length → Calls Tryz.prog 16 #[va (G i), va (G j)] w' fun r w'' => r = .returned (.int .i64 (cV i j)) ∧ Below w'.heap.size w' w'') :
  Calls Tryz.prog 29 #[lv] w fun r w' => ∃ b : Bool, r = .returned (.bool b) ∧ (b = true ↔ ¬ Alike l.length cV) ∧ Below w.heap.size w w' := by
 obtain ⟨P, hP⟩ : ∃ P : Ending → World → Prop, P = fun r w' => ∃ b : Bool, r = .returned (.bool b) ∧ (b = true ↔ ¬ Alike l.length cV) ∧ Below w.heap.size w w' := ⟨_, rfl⟩
 rw [← hP]
 have HP := hid_intro hP
 obtain ⟨ao, cap, rfl, hm, -, -⟩ := id hl
 obtain ⟨W, hW⟩ : ∃ W, w.alloc (.cells #[.slice ao l.length cap] 25) = W := ⟨_, rfl⟩
 have hbW : Below w.heap.size w W := hW ▸ vb_a (Below.refl _ _) _
 have cB : W.cell? ⟨w.heap.size, 0, none⟩ = some (.slice ao l.length cap) := by rw [← hW]; simp
 have hcmp : CmpAt W 55 #[.pointer (some ⟨w.heap.size, 0, none⟩)] l.length cV := ⟨enters_twoOf, fun w' hb i j hi hj =>
  twoOf_any w' w.heap.size l _ G ((hb.cell (World.block_lt_of_cell? _ _ cB)).trans cB) (hl.kept (vb_t hbW hb)) i j hi hj _ (fun w'' hb' => hc w'' (vb_t (vb_t hbW hb) hb') i j hi hj)⟩
 have cal := alike_any l.length hn _ _ cV hO hA W hcmp
 have hm' : (l.length : Int) ≤ 9223372036854775807 := by unfold maxLen at hm; omega
 have hmf : ∀ (fn : Fn) (first cap : Array Value) (w : World), (Instr.makeFunc fn first cap).run Tryz.prog w = .ok (.func fn first cap) w := fun _ _ _ _ => rfl
 have HBW := hid_intro hbW
 clear hP hl hc hO hA hcmp hbW hn hm
 go_enter Tryz.func29, Tryz.ntmps29
 go_wp2_with (first | (go_at_call 54; (with_reducible refine cal.mono ?_); rintro r w1 ⟨bb, rfl, hb1, hb2⟩; have HX := hid_intro (And.intro hb1 hb2); clear hb1 hb2))
 rw [HP.out]
 exact ⟨!bb, rfl, by rw [← HX.out.1]; simp, vb_t HBW.out HX.out.2⟩
end Go.Proofs.YtjdboekanmfgpaaGreatDoor

namespace Go.Proofs.YtjdboekanmfgpaaGreatDoor

theorem fu_shift (c : Nat → Int) : ∀ m i, fu c (i + 1) m = fu (fun j => c (j + 1)) i m
 | 0, _ => rfl
 | m + 1, i => by
  rw [fu, fu, fu_shift c m (i + 1)]
theorem fu_lx {α : Type} (f : α → α → Int) (d : α) : ∀ l m : List α, l.length = m.length → fu (fun i => f (l.getD i d) (m.getD i d)) 0 l.length = lx f l m
 | [], [], _ => rfl
 | a :: l, b :: m, h => by
  have ih := fu_lx f d l m (by simpa using h)
  show fu _ 0 (l.length + 1) = th (f a b) (lx f l m)
  rw [fu, fu_shift]
  have e : (fun j => f ((a :: l).getD (j + 1) d) ((b :: m).getD (j + 1) d)) = fun j => f (l.getD j d) (m.getD j d) := by
   funext j
   simp
  rw [e, ih]
  unfold th
  by_cases h0 : f a b = 0
  ·simp [h0]
  ·simp [h0]
 | [], _ :: _, h => by simp at h
 | _ :: _, [], h => by simp at h
theorem fu_congr {c c' : Nat → Int} : ∀ m i, (∀ j, i ≤ j → j < i + m → c j = c' j) → fu c i m = fu c' i m
 | 0, _, _ => rfl
 | m + 1, i, h => by
  rw [fu, fu, h i (Nat.le_refl _) (by omega), fu_congr m (i + 1) (fun j h1 h2 => h j (by omega) (by omega))]
end Go.Proofs.YtjdboekanmfgpaaGreatDoor
