/- The arena as the walks hold it: a struct's block that leads to a row of words. Conditions: as each theorem states them. -/
import Derived.Test.YtdnlddjgjceogaaRows
import Derived.Test.YtdnlddjgjceogaaKeep
namespace Go.Proofs.Ytdnlddjgjceogaa
set_option linter.unusedVariables false
set_option linter.unusedSimpArgs false
open Go.RowKit

/-- What an arena is, plainly: its words, how often it was touched, the place that is kept. -/
structure St where
  ws : List Int
  t : Nat
  l : Int

def inB (s : St) (k : Int) : Bool := decide (0 ≤ k) && decide (k < s.ws.length)
def was (s : St) (k : Int) : Int := if inB s k then s.ws.getD k.toNat 0 else 0
def upd (s : St) (k : Int) (y : Int) : St := if inB s k then ⟨s.ws.set k.toNat y, s.t + 1, k⟩ else s

theorem inB_iff {s : St} {k : Int} : inB s k = true ↔ 0 ≤ k ∧ k < s.ws.length := by simp [inB]
theorem was_in {s : St} {k : Int} (h : inB s k = true) : was s k = s.ws.getD k.toNat 0 := by simp [was, h]
theorem was_out {s : St} {k : Int} (h : inB s k = false) : was s k = 0 := by simp [was, h]
theorem upd_in {s : St} {k y : Int} (h : inB s k = true) : upd s k y = ⟨s.ws.set k.toNat y, s.t + 1, k⟩ := by simp [upd, h]
theorem upd_out {s : St} {k y : Int} (h : inB s k = false) : upd s k y = s := by simp [upd, h]
theorem upd_len (s : St) (k y : Int) : (upd s k y).ws.length = s.ws.length := by
  unfold upd; split <;> simp
theorem upd_t (s : St) (k y : Int) : (upd s k y).t ≤ s.t + 1 := by
  unfold upd; split <;> simp
theorem inB_upd (s : St) (k y j : Int) : inB (upd s k y) j = inB s j := by simp [inB, upd_len]

def u64s (ws : List Int) : Array Value := (ws.map (Value.int .u64)).toArray

theorem u64s_get (ws : List Int) (i : Nat) (h : i < ws.length) : (u64s ws)[i]? = some (.int .u64 (ws.getD i 0)) := by
  simp [u64s, List.getD, h]
theorem u64s_set (ws : List Int) (i : Nat) (y : Int) : (u64s ws).setIfInBounds i (.int .u64 y) = u64s (ws.set i y) := by
  simp [u64s, List.map_set]
theorem u64s_size (ws : List Int) : (u64s ws).size = ws.length := by simp [u64s]

/-- The arena at p, its words at r. -/
structure Ar (w : World) (p r : Nat) (s : St) : Prop where
  hp : w.heap[p]? = some (.cells #[.slice (some ⟨r, 0, none⟩) s.ws.length s.ws.length, .int .u64 s.t, .int .i64 s.l] 55 (0, 0))
  hr : w.heap[r]? = some (.cells (u64s s.ws) 30 (0, 0))

theorem Ar.ne {w : World} {p r : Nat} {s : St} (h : Ar w p r s) : p ≠ r := by
  intro e; subst e
  have := h.hp.symm.trans h.hr
  simp at this
theorem Ar.lt {w : World} {p r : Nat} {s : St} (h : Ar w p r s) : p < w.heap.size ∧ r < w.heap.size := ⟨lt_of_block h.hp, lt_of_block h.hr⟩
theorem Ar.keep {w w' : World} {p r : Nat} {s : St} {S : List Nat} (h : Ar w p r s) (k : Kp S w w') (hp : p ∉ S) (hr : r ∉ S) : Ar w' p r s := ⟨k.row hp h.hp, k.row hr h.hr⟩
theorem Ar.c0 {w : World} {p r : Nat} {s : St} (h : Ar w p r s) : w.cell? ⟨p, 0, none⟩ = some (.slice (some ⟨r, 0, none⟩) s.ws.length s.ws.length) := by rw [cell_of_row h.hp]; rfl
theorem Ar.c1 {w : World} {p r : Nat} {s : St} (h : Ar w p r s) : w.cell? ⟨p, 1, none⟩ = some (.int .u64 s.t) := by rw [cell_of_row h.hp]; rfl
theorem Ar.c2 {w : World} {p r : Nat} {s : St} (h : Ar w p r s) : w.cell? ⟨p, 2, none⟩ = some (.int .i64 s.l) := by rw [cell_of_row h.hp]; rfl
theorem Ar.f {w : World} {p r : Nat} {s : St} (h : Ar w p r s) (i : Nat) : w.frozen? ⟨p, i, none⟩ = false := free_of_row h.hp i
theorem Ar.cr {w : World} {p r : Nat} {s : St} (h : Ar w p r s) {i : Nat} (hi : i < s.ws.length) : w.cell? ⟨r, i, none⟩ = some (.int .u64 (s.ws.getD i 0)) := by rw [cell_of_row h.hr, u64s_get _ _ hi]
theorem Ar.fr {w : World} {p r : Nat} {s : St} (h : Ar w p r s) (i : Nat) : w.frozen? ⟨r, i, none⟩ = false := free_of_row h.hr i

/-- The world behind a touch that has counted, ahead of the word's store. -/
def tw (w : World) (p : Nat) (t : Nat) (k : Int) : World := (w.setCell ⟨p, 1, none⟩ (.int .u64 (t + 1 : Nat))).setCell ⟨p, 2, none⟩ (.int .i64 k)

theorem tw_size (w : World) (p t : Nat) (k : Int) : (tw w p t k).heap.size = w.heap.size := by simp [tw, World.setCell]
theorem tw_kp (w : World) (p t : Nat) (k : Int) : Kp [p] w (tw w p t k) := ((Kp.refl [p] w).setCell (.inl (by simp)) _).setCell (.inl (by simp)) _
theorem Ar.tw {w : World} {p r : Nat} {s : St} (h : Ar w p r s) (k : Int) : Ar (tw w p s.t k) p r ⟨s.ws, s.t + 1, k⟩ := by
  refine ⟨?_, (tw_kp w p s.t k).row (by simpa using h.ne.symm) h.hr⟩
  have h1 := heap_setCell_same w p 1 _ _ (.int .u64 (s.t + 1 : Nat)) h.hp
  have h2 := heap_setCell_same _ p 2 _ _ (.int .i64 k) h1
  rw [Go.Proofs.Ytdnlddjgjceogaa.tw, h2]
  simp

/-- A store of a word. -/
theorem Ar.store {w : World} {p r : Nat} {s : St} (h : Ar w p r s) (i : Nat) (y : Int) : Ar (w.setCell ⟨r, i, none⟩ (.int .u64 y)) p r ⟨s.ws.set i y, s.t, s.l⟩ := by
  refine ⟨?_, ?_⟩
  · rw [heap_setCell_other _ _ _ _ (by simpa using h.ne), h.hp]; simp
  · rw [heap_setCell_same _ _ _ _ _ _ h.hr, u64s_set]

end Go.Proofs.Ytdnlddjgjceogaa
