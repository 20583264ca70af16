/-
  A reference's parts that come in as an argument, and how many bytes they can be. Conditions: none of its own.
-/
import Derived.Test.YtgmigdfkdioalaaUK
import Derived.Test.YtgmigdfkdioalaaUU12
namespace Go.Proofs.Ytgmigdfkdioalaa
open Go.ChangeShapes Go.WideShapes Go.ChangeAt Go.RowKit
open Go.ChangeMaps (open_string shut_string)

theorem cellsStr : Try.prog.cellsOf 9 = 1 := by kernel_rfl
theorem cellsBool : Try.prog.cellsOf 4 = 1 := by kernel_rfl
theorem cellsUri : Try.prog.cellsOf 23 = 8 := by kernel_rfl
theorem trod_struct8 {H : Type} {enc : TypeId × Value → H} {P : Program} {w : World} {base : Nat} {spare : Nat → Bool} {held : Bool} {t : TypeId} {f0 f1 f2 f3 f4 f5 f6 f7 : Field} {fuel : Nat} {cs : List Value} {x : DataW H × List MemPlace} (ht : P.underlying t = some (.struct #[f0, f1, f2, f3, f4, f5, f6, f7])) (h : DataW.trod enc P w base spare held fuel t cs = some x) :
    ∃ y0 y1 y2 y3 y4 y5 y6 y7 n, fuel = n + 1 ∧ x = (.agg [y0.1, y1.1, y2.1, y3.1, y4.1, y5.1, y6.1, y7.1], y0.2 ++ (y1.2 ++ (y2.2 ++ (y3.2 ++ (y4.2 ++ (y5.2 ++ (y6.2 ++ (y7.2)))))))) ∧ cs.length = P.cellsOf t ∧ DataW.trod enc P w base spare held n f0.type ((cs.drop f0.offset).take (P.cellsOf f0.type)) = some y0 ∧ DataW.trod enc P w base spare held n f1.type ((cs.drop f1.offset).take (P.cellsOf f1.type)) = some y1 ∧ DataW.trod enc P w base spare held n f2.type ((cs.drop f2.offset).take (P.cellsOf f2.type)) = some y2 ∧ DataW.trod enc P w base spare held n f3.type ((cs.drop f3.offset).take (P.cellsOf f3.type)) = some y3 ∧ DataW.trod enc P w base spare held n f4.type ((cs.drop f4.offset).take (P.cellsOf f4.type)) = some y4 ∧ DataW.trod enc P w base spare held n f5.type ((cs.drop f5.offset).take (P.cellsOf f5.type)) = some y5 ∧ DataW.trod enc P w base spare held n f6.type ((cs.drop f6.offset).take (P.cellsOf f6.type)) = some y6 ∧ DataW.trod enc P w base spare held n f7.type ((cs.drop f7.offset).take (P.cellsOf f7.type)) = some y7 := by
  obtain ⟨xs, n, hn, rfl, hl, hlen, hf⟩ := DataW.trod_struct ht h
  match xs, hlen with
  | [y0, y1, y2, y3, y4, y5, y6, y7], _ => exact ⟨y0, y1, y2, y3, y4, y5, y6, y7, n, hn, by simp, hl, by simpa using hf 0 f0 rfl, by simpa using hf 1 f1 rfl, by simpa using hf 2 f2 rfl, by simpa using hf 3 f3 rfl, by simpa using hf 4 f4 rfl, by simpa using hf 5 f5 rfl, by simpa using hf 6 f6 rfl, by simpa using hf 7 f7 rfl⟩
theorem trod_struct8_mk {H : Type} {enc : TypeId × Value → H} {P : Program} {w : World} {base : Nat} {spare : Nat → Bool} {held : Bool} {t : TypeId} {f0 f1 f2 f3 f4 f5 f6 f7 : Field} {n : Nat} {cs : List Value} {y0 y1 y2 y3 y4 y5 y6 y7 : DataW H × List MemPlace} (ht : P.underlying t = some (.struct #[f0, f1, f2, f3, f4, f5, f6, f7])) (hl : cs.length = P.cellsOf t)
    (h0 : DataW.trod enc P w base spare held n f0.type ((cs.drop f0.offset).take (P.cellsOf f0.type)) = some y0) (h1 : DataW.trod enc P w base spare held n f1.type ((cs.drop f1.offset).take (P.cellsOf f1.type)) = some y1) (h2 : DataW.trod enc P w base spare held n f2.type ((cs.drop f2.offset).take (P.cellsOf f2.type)) = some y2) (h3 : DataW.trod enc P w base spare held n f3.type ((cs.drop f3.offset).take (P.cellsOf f3.type)) = some y3) (h4 : DataW.trod enc P w base spare held n f4.type ((cs.drop f4.offset).take (P.cellsOf f4.type)) = some y4) (h5 : DataW.trod enc P w base spare held n f5.type ((cs.drop f5.offset).take (P.cellsOf f5.type)) = some y5) (h6 : DataW.trod enc P w base spare held n f6.type ((cs.drop f6.offset).take (P.cellsOf f6.type)) = some y6) (h7 : DataW.trod enc P w base spare held n f7.type ((cs.drop f7.offset).take (P.cellsOf f7.type)) = some y7) :
    DataW.trod enc P w base spare held (n + 1) t cs = some (.agg [y0.1, y1.1, y2.1, y3.1, y4.1, y5.1, y6.1, y7.1], y0.2 ++ (y1.2 ++ (y2.2 ++ (y3.2 ++ (y4.2 ++ (y5.2 ++ (y6.2 ++ (y7.2)))))))) := by
  have := trod_struct_mk (enc := enc) (w := w) (base := base) (spare := spare) (held := held) (n := n) (xs := [y0, y1, y2, y3, y4, y5, y6, y7]) ht hl (by simp [h0, h1, h2, h3, h4, h5, h6, h7])
  simpa using this
/-- What each part is at most. -/
def Sz (u : Ur) : Prop := u.sch.length ≤ maxLen ∧ u.auth.length ≤ maxLen ∧ u.path.length ≤ maxLen ∧ u.q.length ≤ maxLen ∧ u.frag.length ≤ maxLen
/-- How a reference's parts read. -/
def uD {H : Type} (u : Ur) : DataW H := .agg [.lit (.string u.sch), .lit (.string u.auth), .lit (.string u.path), .lit (.string u.q), .lit (.string u.frag), .lit (.bool u.hA), .lit (.bool u.hQ), .lit (.bool u.hF)]

set_option maxRecDepth 100000 in
theorem open_uri {H : Type} {enc : TypeId × Value → H} {W : World} {base : Nat} {v : Value} {d : DataW H} {p : List MemPlace} (hv : Value.okWide Try.prog W .any base 23 v)
    (h : DataW.Trod enc Try.prog W 0 (fun _ => true) true 23 v d p) :
    ∃ u : Ur, v = uV u ∧ d = uD u ∧ p = [] ∧ Sz u := by
  obtain ⟨cs, rfl, hsz⟩ := okWide_struct Try.underlying23 hv
  rw [cellsUri] at hsz
  obtain ⟨c0, c1, c2, c3, c4, c5, c6, c7, rfl⟩ : ∃ c0 c1 c2 c3 c4 c5 c6 c7, cs = #[c0, c1, c2, c3, c4, c5, c6, c7] := by
    obtain ⟨l⟩ := cs
    match l, hsz with
    | [a0, a1, a2, a3, a4, a5, a6, a7], _ => exact ⟨a0, a1, a2, a3, a4, a5, a6, a7, rfl⟩
  obtain ⟨fuel, hf⟩ := h
  have hf : DataW.trod enc Try.prog W 0 (fun _ => true) true fuel 23 [c0, c1, c2, c3, c4, c5, c6, c7] = some (d, p) := hf
  obtain ⟨y0, y1, y2, y3, y4, y5, y6, y7, m, _, hx, _, t0, t1, t2, t3, t4, t5, t6, t7⟩ := trod_struct8 Try.underlying23 hf
  simp only [cellsBool, cellsStr, List.drop, List.take] at t0 t1 t2 t3 t4 t5 t6 t7
  obtain ⟨sch, h0, rfl, z0⟩ := DataW.trod_string Try.underlying9 t0
  obtain ⟨auth, h1, rfl, z1⟩ := DataW.trod_string Try.underlying9 t1
  obtain ⟨path, h2, rfl, z2⟩ := DataW.trod_string Try.underlying9 t2
  obtain ⟨q, h3, rfl, z3⟩ := DataW.trod_string Try.underlying9 t3
  obtain ⟨frag, h4, rfl, z4⟩ := DataW.trod_string Try.underlying9 t4
  obtain ⟨hA, h5, rfl⟩ := DataW.trod_bool Try.underlying4 t5
  obtain ⟨hQ, h6, rfl⟩ := DataW.trod_bool Try.underlying4 t6
  obtain ⟨hF, h7, rfl⟩ := DataW.trod_bool Try.underlying4 t7
  simp only [List.cons.injEq, and_true] at h0 h1 h2 h3 h4 h5 h6 h7
  subst h0
  subst h1
  subst h2
  subst h3
  subst h4
  subst h5
  subst h6
  subst h7
  simp only [Prod.mk.injEq] at hx
  refine ⟨⟨sch.data.toList, auth.data.toList, path.data.toList, q.data.toList, frag.data.toList, hA, hQ, hF⟩, rfl, hx.1, by rw [hx.2]; rfl, ?_⟩
  unfold Sz
  simp only [Array.length_toList]
  exact ⟨z0, z1, z2, z3, z4⟩
theorem shut_uri {H : Type} {enc : TypeId × Value → H} {W : World} {base : Nat} {sp : Nat → Bool} {held : Bool} {u : Ur} (hs : Sz u) :
    DataW.Trod enc Try.prog W base sp held 23 (uV u) (uD u) [] := by
  obtain ⟨sch, auth, path, q, frag, hA, hQ, hF⟩ := u
  obtain ⟨s0, s1, s2, s3, s4⟩ := hs
  obtain ⟨f0, h0⟩ := shut_string (enc := enc) (P := Try.prog) (w := W) (base := base) (sp := sp) (held := held) (s := bs sch) Try.underlying9 (by rw [bs_size]; exact s0)
  obtain ⟨f1, h1⟩ := shut_string (enc := enc) (P := Try.prog) (w := W) (base := base) (sp := sp) (held := held) (s := bs auth) Try.underlying9 (by rw [bs_size]; exact s1)
  obtain ⟨f2, h2⟩ := shut_string (enc := enc) (P := Try.prog) (w := W) (base := base) (sp := sp) (held := held) (s := bs path) Try.underlying9 (by rw [bs_size]; exact s2)
  obtain ⟨f3, h3⟩ := shut_string (enc := enc) (P := Try.prog) (w := W) (base := base) (sp := sp) (held := held) (s := bs q) Try.underlying9 (by rw [bs_size]; exact s3)
  obtain ⟨f4, h4⟩ := shut_string (enc := enc) (P := Try.prog) (w := W) (base := base) (sp := sp) (held := held) (s := bs frag) Try.underlying9 (by rw [bs_size]; exact s4)
  obtain ⟨f5, h5⟩ := shut_bool (enc := enc) (P := Try.prog) (w := W) (base := base) (spare := sp) (held := held) Try.underlying4 hA
  obtain ⟨f6, h6⟩ := shut_bool (enc := enc) (P := Try.prog) (w := W) (base := base) (spare := sp) (held := held) Try.underlying4 hQ
  obtain ⟨f7, h7⟩ := shut_bool (enc := enc) (P := Try.prog) (w := W) (base := base) (spare := sp) (held := held) Try.underlying4 hF
  have h0 : DataW.trod enc Try.prog W base sp held f0 9 [.string (bs sch)] = some (.lit (.string sch), []) := h0
  have h1 : DataW.trod enc Try.prog W base sp held f1 9 [.string (bs auth)] = some (.lit (.string auth), []) := h1
  have h2 : DataW.trod enc Try.prog W base sp held f2 9 [.string (bs path)] = some (.lit (.string path), []) := h2
  have h3 : DataW.trod enc Try.prog W base sp held f3 9 [.string (bs q)] = some (.lit (.string q), []) := h3
  have h4 : DataW.trod enc Try.prog W base sp held f4 9 [.string (bs frag)] = some (.lit (.string frag), []) := h4
  have h5 : DataW.trod enc Try.prog W base sp held f5 4 [.bool hA] = some (.lit (.bool hA), []) := h5
  have h6 : DataW.trod enc Try.prog W base sp held f6 4 [.bool hQ] = some (.lit (.bool hQ), []) := h6
  have h7 : DataW.trod enc Try.prog W base sp held f7 4 [.bool hF] = some (.lit (.bool hF), []) := h7
  have := trod_struct8_mk (enc := enc) (P := Try.prog) (w := W) (base := base) (spare := sp) (held := held) (n := f0 + f1 + f2 + f3 + f4 + f5 + f6 + f7) (cs := [.string (bs sch), .string (bs auth), .string (bs path), .string (bs q), .string (bs frag), .bool hA, .bool hQ, .bool hF]) (y0 := (.lit (.string sch), [])) (y1 := (.lit (.string auth), [])) (y2 := (.lit (.string path), [])) (y3 := (.lit (.string q), [])) (y4 := (.lit (.string frag), [])) (y5 := (.lit (.bool hA), [])) (y6 := (.lit (.bool hQ), [])) (y7 := (.lit (.bool hF), [])) Try.underlying23 (by rw [cellsUri]; rfl)
    (by simpa [cellsStr] using DataW.trod_le (by omega) h0) (by simpa [cellsStr] using DataW.trod_le (by omega) h1) (by simpa [cellsStr] using DataW.trod_le (by omega) h2) (by simpa [cellsStr] using DataW.trod_le (by omega) h3) (by simpa [cellsStr] using DataW.trod_le (by omega) h4) (by simpa [cellsBool] using DataW.trod_le (by omega) h5) (by simpa [cellsBool] using DataW.trod_le (by omega) h6) (by simpa [cellsBool] using DataW.trod_le (by omega) h7)
  exact ⟨f0 + f1 + f2 + f3 + f4 + f5 + f6 + f7 + 1, this⟩
theorem upto_uri {H : Type} {ds : List (DataW H)} (hc : Rows.uptoSmall H ds = true) {j : Nat} {u : Ur} (hd : ds[j]? = some (uD u)) : usum u ≤ 1048576 := by
  have hb : Rows.uptoBulkAll ds ≤ 1048576 := of_decide_eq_true hc
  have hp := bulk_part (List.mem_of_getElem? hd)
  simp only [uD, Rows.uptoBulk, Rows.uptoBulkAll] at hp
  unfold usum
  omega
end Go.Proofs.Ytgmigdfkdioalaa
