/-
  LexBad answers true for every bytes. Conditions: at most 2^20 of them; the table of greatest code points and errors.errorType as they are laid.
-/
import Derived.Test.YtngpkgmgjbahgaaDoorB5
import Derived.Deep.LoopGhost
import Derived.Deep.CutRange
namespace Go.Proofs.YtngpkgmgjbahgaaDoor
open Go.RowKit
attribute [local go_sem] setCell_drewN alloc_drewN

/-- The world with the ends. -/
def endsWorld (w : World) : World := (w.alloc (.cells #[.int .i64 0, .string ⟨#[]⟩, .int .i64 0, .int .i64 0] 25)).alloc (.cells #[.string ⟨#[]⟩, .string ⟨#[48]⟩, .string ⟨#[34]⟩, .string ⟨#[117, 108, 108]⟩, .string ⟨#[108, 108]⟩, .string ⟨#[108]⟩, .string ⟨#[114, 117, 101]⟩, .string ⟨#[117, 101]⟩, .string ⟨#[101]⟩, .string ⟨#[97, 108, 115, 101]⟩, .string ⟨#[108, 115, 101]⟩, .string ⟨#[115, 101]⟩, .string ⟨#[117, 48, 48, 48, 48, 34]⟩, .string ⟨#[48, 48, 48, 48, 34]⟩, .string ⟨#[48, 48, 48, 34]⟩, .string ⟨#[48, 48, 34]⟩, .string ⟨#[48, 34]⟩, .string ⟨#[92, 117, 100, 99, 48, 48, 34]⟩, .string ⟨#[117, 100, 99, 48, 48, 34]⟩, .string ⟨#[100, 99, 48, 48, 34]⟩, .string ⟨#[99, 48, 48, 34]⟩, .string ⟨#[128, 34]⟩, .string ⟨#[160, 128, 34]⟩, .string ⟨#[128, 128, 34]⟩, .string ⟨#[144, 128, 128, 34]⟩, .string ⟨#[128, 128, 128, 34]⟩, .string ⟨#[34, 34]⟩, .string ⟨#[56, 48, 48, 34]⟩, .string ⟨#[48, 48, 92, 117, 100, 99, 48, 48, 34]⟩, .string ⟨#[48, 92, 117, 100, 99, 48, 48, 34]⟩] 9)
theorem ends_cells : ((#[.string ⟨#[]⟩, .string ⟨#[48]⟩, .string ⟨#[34]⟩, .string ⟨#[117, 108, 108]⟩, .string ⟨#[108, 108]⟩, .string ⟨#[108]⟩, .string ⟨#[114, 117, 101]⟩, .string ⟨#[117, 101]⟩, .string ⟨#[101]⟩, .string ⟨#[97, 108, 115, 101]⟩, .string ⟨#[108, 115, 101]⟩, .string ⟨#[115, 101]⟩, .string ⟨#[117, 48, 48, 48, 48, 34]⟩, .string ⟨#[48, 48, 48, 48, 34]⟩, .string ⟨#[48, 48, 48, 34]⟩, .string ⟨#[48, 48, 34]⟩, .string ⟨#[48, 34]⟩, .string ⟨#[92, 117, 100, 99, 48, 48, 34]⟩, .string ⟨#[117, 100, 99, 48, 48, 34]⟩, .string ⟨#[100, 99, 48, 48, 34]⟩, .string ⟨#[99, 48, 48, 34]⟩, .string ⟨#[128, 34]⟩, .string ⟨#[160, 128, 34]⟩, .string ⟨#[128, 128, 34]⟩, .string ⟨#[144, 128, 128, 34]⟩, .string ⟨#[128, 128, 128, 34]⟩, .string ⟨#[34, 34]⟩, .string ⟨#[56, 48, 48, 34]⟩, .string ⟨#[48, 48, 92, 117, 100, 99, 48, 48, 34]⟩, .string ⟨#[48, 92, 117, 100, 99, 48, 48, 34]⟩] : Array Value)) = (endsL.map fun e => Value.string ⟨e.toArray⟩).toArray := rfl
theorem ends_at (w : World) (k : Nat) (hk : k < 30) : (endsWorld w).cell? ⟨w.heap.size + 1, k, none⟩ = some (.string (endS k)) := by
  unfold endsWorld
  rw [ends_cells, World.cell?_alloc_at _ _ _ _ (by simp)]
  have hk2 : k < endsL.length := hk
  simp [endS, List.getElem?_eq_getElem hk2]

/-- The empty token's block. -/
def Tb (w : World) (t : Nat) : Prop := w.heap[t]? = some (.cells #[.int .i64 0, .string ⟨#[]⟩, .int .i64 0, .int .i64 0] 25)
theorem Tb.new (w : World) : Tb (w.alloc (.cells #[.int .i64 0, .string ⟨#[]⟩, .int .i64 0, .int .i64 0] 25)) w.heap.size := heap_alloc_new w _
theorem Tb.new2 (w : World) (o : Obj) : Tb ((w.alloc o).alloc (.cells #[.int .i64 0, .string ⟨#[]⟩, .int .i64 0, .int .i64 0] 25)) (w.heap.size + 1) := by
  have h := Tb.new (w.alloc o)
  rwa [World.size_alloc] at h
theorem Tb.drew {w : World} {t : Nat} (h : Tb w t) : Tb w.drew t := h
theorem Tb.lt {w : World} {t : Nat} (h : Tb w t) : t < w.heap.size := (Array.getElem?_eq_some_iff.1 h).1
theorem Tb.alloc {w : World} {t : Nat} (h : Tb w t) (o : Obj) : Tb (w.alloc o) t := by
  have := (World.grownBy_alloc w o none).block t h.lt (by simp)
  unfold Tb at *
  rw [this]; exact h
theorem Tb.step {w w' : World} {t base n : Nat} {v : Value} {xs : List Value} (h : Tb w t) (ho : w.ownsRow base 5 1 v n xs) (hg : w.grownBy w' v.ownBlock) : Tb w' t := by
  have hne : some t ≠ v.ownBlock := by
    intro e
    obtain ⟨_, ⟨rfl, _⟩ | ⟨g, cap, cur, rfl, _, hh, _⟩⟩ := ho
    · cases e
    · have e2 : t = g := Option.some.inj e
      subst e2
      unfold Tb at h
      rw [h] at hh
      have := Option.some.inj hh
      injection this with _ e3 _
      exact absurd e3 (by decide)
  have := hg.block t h.lt hne
  unfold Tb at *
  rw [this]; exact h
theorem Tb.below {w w' : World} {t : Nat} (h : Tb w t) (hb : Below w.heap.size w w') : Tb w' t := by
  have := hb.block t h.lt
  unfold Tb at *
  rw [this]; exact h
theorem Tb.facts {w : World} {t : Nat} (h : Tb w t) : (∀ o, w.cell? ⟨t, o, none⟩ = #[Value.int .i64 0, .string ⟨#[]⟩, .int .i64 0, .int .i64 0][o]?) ∧ (∀ o, w.frozen? ⟨t, o, none⟩ = false) ∧ t < w.heap.size := by
  refine ⟨fun o => ?_, fun o => ?_, h.lt⟩
  · unfold Tb at h
    simp [World.cell?, h]
  · unfold Tb at h
    simp [World.frozen?, h]
theorem nxV_form (r : Tk) : ∃ tk ts tf te n, nxV r = .tuple #[.agg #[.int .i64 tk, .string ts, .int .i64 tf, .int .i64 te], .int .i64 n, .int .i64 (if okB r then 0 else 50)] := by
  cases r with
  | ok t => exact ⟨_, _, _, _, _, rfl⟩
  | error n => exact ⟨_, _, _, _, _, rfl⟩

set_option maxRecDepth 100000 in
set_option maxHeartbeats 1600000 in
theorem bad_none (l : List UInt8) (v : Value) (w : World) (hE : Env w) (hB : Byt w v l) (hl : l.length ≤ 1048576) (t : Tok) (hr : nextL l 0 = .ok t) :
    Calls Tryd.prog 3 #[v] w fun r w' => r = .returned (.bool true) ∧ Below w.heap.size w w' := by
  have g1 := next_any l 0 v w hE hB (Nat.zero_le _) (by omega)
  have g9 := fun w' (hb : Below w.heap.size w w') => heads4_any w' (hE.below hb)
  rw [hr] at g1
  simp only [nxV, tokV] at g1
  generalize ((t.kind : Nat) : Int) = tk at *
  generalize (⟨t.text.toArray⟩ : ByteArray) = ts at *
  generalize ((t.fr : Nat) : Int) = tf at *
  generalize ((t.to : Nat) : Int) = te at *
  clear hr hB hl
  go_enter Tryd.func3, Tryd.ntmps3
  go_wp2_with (first | (go_at_call 4; refine g1.mono ?_; rintro r w1 ⟨rfl, hb1⟩; have hb11 := bl_a hb1 (.cells #[.int .i64 tk, .string ts, .int .i64 tf, .int .i64 te] 25)) | (go_at_call 5; refine (g9 _ hb11).mono ?_; rintro r w5 ⟨rfl, hb5⟩))
  go_ret
  exact ⟨rfl, bl_t hb11 hb5⟩
end Go.Proofs.YtngpkgmgjbahgaaDoor
