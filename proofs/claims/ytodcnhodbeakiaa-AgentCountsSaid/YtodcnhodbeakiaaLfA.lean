/- A world and its veiled twin: some cells of the twin bear no store, some of its blocks are of no use, its tape is another one. What one runs there alone without coming to grief is what one does in the world itself, and it touches none of those cells and blocks: for the operations' own steps. Of whatever program. Conditions: none. -/
import Derived.RunT
import Derived.Conc.Events
import Derived.Laws.Sem
import Derived.Conc.Beside
namespace Go.Proofs.Ytodcnhodbeakiaa
set_option linter.unusedVariables false
set_option linter.unusedSimpArgs false

/-- 'froz': a block's cells that bear no store (from, to); 'ch': blocks that are of no use; 'top': all of them lie below it. -/
structure Veil where
  froz : Nat → Option (Nat × Nat)
  ch : Nat → Bool
  top : Nat
  lowF : ∀ i r, froz i = some r → i < top
  lowC : ∀ i, ch i = true → i < top

def Veil.still (V : Veil) (a : Addr) : Bool := match V.froz a.block with | some (lo, hi) => lo ≤ a.off && a.off < hi | none => false
def Veil.obj (V : Veil) (i : Nat) (o : Obj) : Obj := match o with
  | .cells c t fz => .cells c t ((V.froz i).getD fz)
  | .view a u => if V.ch i then .view ⟨0, 0, some 0⟩ 0 else .view a u
  | o => if V.ch i then .coro none else o
def Veil.world (V : Veil) (τ : Nat → Question → Nat) (D : Nat) (w : World) : World := { heap := w.heap.mapIdx fun i o => V.obj i o, tape := τ, drawn := D, os := w.os, output := w.output }
def veilR {α : Type} (V : Veil) (τ : Nat → Question → Nat) (D : Nat) : Result α → Result α
  | .ok a w => .ok a (V.world τ D w)
  | .halt h w => .halt h (V.world τ D w)

def NiceO : Obj → Prop
  | .view .. | .pending .. | .loop .. => False
  | _ => True
def isCells : Obj → Prop
  | .cells .. => True
  | _ => False
def isNumber : Obj → Prop
  | .number .. => True
  | _ => False
/-- What a poisoned block is in the twin. -/
def isSham : Obj → Prop
  | .coro none => True
  | .view ⟨0, 0, some 0⟩ 0 => True
  | _ => False

structure VOK (V : Veil) (w : World) : Prop where
  top : V.top ≤ w.heap.size
  nice : ∀ i o, w.heap[i]? = some o → V.ch i = true ∨ NiceO o
  chs : ∀ i o, V.ch i = true → w.heap[i]? = some o → ¬ isCells o ∧ ¬ isNumber o
  frz : ∀ i r, V.froz i = some r → ∃ c t, w.heap[i]? = some (.cells c t (0, 0))
structure VKeep (V : Veil) (w w' : World) : Prop where
  size : w.heap.size ≤ w'.heap.size
  chs : ∀ i, V.ch i = true → w'.heap[i]? = w.heap[i]?
  st : ∀ a, V.still a = true → w'.cell? a = w.cell? a
theorem VKeep.refl (V : Veil) (w : World) : VKeep V w w := ⟨Nat.le_refl _, fun _ _ => rfl, fun _ _ => rfl⟩
theorem VKeep.trans {V : Veil} {a b c : World} (h : VKeep V a b) (k : VKeep V b c) : VKeep V a c :=
  ⟨Nat.le_trans h.size k.size, fun i hi => (k.chs i hi).trans (h.chs i hi), fun x hx => (k.st x hx).trans (h.st x hx)⟩

def CalmV (V : Veil) (e : Event) : Prop :=
  (∀ x, (MemAct.ofEvent e).touch? = some x → x.write = true → ∀ c, x.loc = .cell c → V.still c = false) ∧ e.loc ≠ .mark .disable ∧ e.loc ≠ .mark .enable
def Agr (A : List (Question → Nat)) (τ : Nat → Question → Nat) (D : Nat) : Prop := ∀ j f, A[j]? = some f → τ (D + j) = f
theorem Agr.nil (τ : Nat → Question → Nat) (D : Nat) : Agr [] τ D := fun j f h => by simp at h
theorem Agr.left {A B : List (Question → Nat)} {τ : Nat → Question → Nat} {D : Nat} (h : Agr (A ++ B) τ D) : Agr A τ D := fun j f hj => h j f (by
  rw [List.getElem?_append_left (by exact (List.getElem?_eq_some_iff.1 hj).1)]; exact hj)
theorem Agr.right {A B : List (Question → Nat)} {τ : Nat → Question → Nat} {D : Nat} (h : Agr (A ++ B) τ D) : Agr B τ (D + A.length) := fun j f hj => by
  rw [Nat.add_assoc]
  exact h (A.length + j) f (by rw [List.getElem?_append_right (by omega)]; simpa using hj)

def Dead : Halt → Prop
  | .stuck _ => True
  | .unsupported (.initOrder _) => False
  | .unsupported _ => True
  | _ => False

section
variable {V : Veil} {τ : Nat → Question → Nat} {D : Nat} {w : World}

theorem veil_heap (i : Nat) : (V.world τ D w).heap[i]? = (w.heap[i]?).map (V.obj i) := by simp [Veil.world]
theorem veil_size : (V.world τ D w).heap.size = w.heap.size := by simp [Veil.world]
theorem veil_cell (a : Addr) : (V.world τ D w).cell? a = w.cell? a := by
  unfold World.cell?
  rw [veil_heap]
  cases h : w.heap[a.block]? with
  | none => rfl
  | some o => cases hc : V.ch a.block <;> cases o <;> simp [Veil.obj, hc]
theorem veil_shape (r : Nat) : (V.world τ D w).shape? r = w.shape? r := by
  unfold World.shape?
  rw [veil_heap]
  cases h : w.heap[r]? with
  | none => rfl
  | some o => cases hc : V.ch r <;> cases o <;> simp [Veil.obj, hc]
theorem veil_at (d : Nat) : V.world τ D (w.at d) = V.world τ D w := rfl
theorem veil_drew (n : Nat) : V.world τ D { w with drawn := n } = V.world τ D w := rfl

theorem VOK.at (h : VOK V w) (d : Nat) : VOK V (w.at d) := ⟨h.top, h.nice, h.chs, h.frz⟩
theorem VOK.drawn (h : VOK V w) (n : Nat) : VOK V { w with drawn := n } := ⟨h.top, h.nice, h.chs, h.frz⟩

theorem veil_frozen (h : VOK V w) {a : Addr} (ha : V.still a = false) : (V.world τ D w).frozen? a = w.frozen? a := by
  unfold World.frozen?
  rw [veil_heap]
  cases hb : w.heap[a.block]? with
  | none => rfl
  | some o =>
    by_cases hcl : isCells o
    rotate_left
    · cases hc : V.ch a.block <;> cases o <;> simp_all [Veil.obj, isCells]
    cases o <;> simp only [isCells] at hcl
    rename_i c t fz
    simp only [Option.map_some, Veil.obj]
    cases hf : V.froz a.block with
    | none => simp
    | some r =>
      obtain ⟨c', t', hc⟩ := h.frz _ _ hf
      rw [hb] at hc
      obtain ⟨rfl, rfl, rfl⟩ := by simpa using hc
      obtain ⟨lo, hi⟩ := r
      simp only [Veil.still, hf] at ha
      simp only [Option.getD_some, ha]
      simp
theorem veil_still {a : Addr} (h : VOK V w) (ha : V.still a = true) : (V.world τ D w).frozen? a = true := by
  unfold Veil.still at ha
  cases hf : V.froz a.block with
  | none => rw [hf] at ha; cases ha
  | some r =>
    obtain ⟨lo, hi⟩ := r
    rw [hf] at ha
    obtain ⟨c, t, hc⟩ := h.frz _ _ hf
    unfold World.frozen?
    rw [veil_heap, hc]
    simpa [Veil.obj, hf] using ha

/-- No block of the twin is one through which another is seen, or that waits for its beginning, but for those of no use. -/
theorem veil_nice (h : VOK V w) {i : Nat} {o : Obj} (ho : (V.world τ D w).heap[i]? = some o) : NiceO o ∨ isSham o := by
  rw [veil_heap] at ho
  cases hw : w.heap[i]? with
  | none => rw [hw] at ho; cases ho
  | some o' =>
    rw [hw] at ho
    obtain rfl : V.obj i o' = o := by simpa using ho
    rcases h.nice i o' hw with hc | hn
    · cases o' <;> simp [Veil.obj, hc, NiceO, isSham]
    · cases hc : V.ch i <;> cases o' <;> simp_all [Veil.obj, NiceO]

theorem seen_spot (P : Program) (w : World) (x1 x2 : Nat) (u : TypeId) (k : Addr) (b : Bool) : w.seen P ⟨x1, x2, some 0⟩ u k b = .error "memory seen as another type: a place without cells" := by
  obtain ⟨k1, k2, k3⟩ := k
  cases k3 <;> rfl
theorem veil_far_load {P : Program} (h : VOK V w) {a : Addr} (ha : w.cell? a = none) (b : Bool) : ∃ e, Dead e ∧ (V.world τ D w).farLoad P a b = .error e := by
  unfold World.farLoad
  cases hb : (V.world τ D w).heap[a.block]? with
  | none => exact ⟨.stuck "load: no such cell", trivial, by simp [World.noCell, hb]⟩
  | some o =>
    rcases veil_nice h hb with hn | hn
    · refine ⟨.stuck "load: no such cell", trivial, ?_⟩
      cases o <;> simp_all [NiceO, World.noCell]
    · cases o with
      | coro x => exact ⟨.stuck "load: no such cell", trivial, by simp [World.noCell, hb]⟩
      | view x y =>
        obtain ⟨x1, x2, x3⟩ := x
        have : x3 = some 0 := by
          unfold isSham at hn
          split at hn
          · rename_i e; cases e
          · rename_i e; cases e; rfl
          · exact hn.elim
        subst this
        exact ⟨.unsupported (.unsafePointer "memory seen as another type: a place without cells"), trivial, by simp only [World.viewLoad, seen_spot]; rfl⟩
      | _ => exact hn.elim
theorem veil_far_store {P : Program} (h : VOK V w) {a : Addr} (v : Value) (b : Bool) : ∃ e, Dead e ∧ (V.world τ D w).farStore P a v b = .error e := by
  unfold World.farStore
  cases hb : (V.world τ D w).heap[a.block]? with
  | none => exact ⟨.stuck "store: no such cell", trivial, by simp [World.noCell, hb]⟩
  | some o =>
    rcases veil_nice h hb with hn | hn
    · refine ⟨.stuck "store: no such cell", trivial, ?_⟩
      cases o <;> simp_all [NiceO, World.noCell]
    · cases o with
      | coro x => exact ⟨.stuck "store: no such cell", trivial, by simp [World.noCell, hb]⟩
      | view x y =>
        obtain ⟨x1, x2, x3⟩ := x
        have : x3 = some 0 := by
          unfold isSham at hn
          split at hn
          · rename_i e; cases e
          · rename_i e; cases e; rfl
          · exact hn.elim
        subst this
        by_cases ht : tight P P.depth y = true
        · exact ⟨.unsupported (.unsafePointer "memory seen as another type: a place without cells"), trivial, by simp only [World.viewStore, seen_spot, ht]; rfl⟩
        · exact ⟨.unsupported (.unsafePointer "memory seen as another type: a store through a type with padding"), trivial, by simp only [World.viewStore, show tight P P.depth y = false from by simpa using ht]; rfl⟩
      | _ => exact hn.elim

theorem veil_setCell (h : VOK V w) (a : Addr) (v : Value) : (V.world τ D w).setCell a v = V.world τ D (w.setCell a v) := by
  have e : ((V.world τ D w).setCell a v).heap = (V.world τ D (w.setCell a v)).heap := by
    apply Array.ext_getElem?
    intro i
    rw [veil_heap]
    simp only [World.setCell, Array.getElem?_modify]
    rw [veil_heap]
    by_cases hi : a.block = i
    · subst hi
      cases hb : w.heap[a.block]? with
      | none => simp
      | some o => cases hc : V.ch a.block <;> cases o <;> simp [Veil.obj, hc]
    · simp [hi]
  calc (V.world τ D w).setCell a v = { (V.world τ D w) with heap := ((V.world τ D w).setCell a v).heap } := rfl
    _ = V.world τ D (w.setCell a v) := by rw [e]; rfl
theorem veil_alloc {o : Obj} (h : VOK V w) : ({ (V.world τ D w) with heap := (V.world τ D w).heap.push o } : World) = V.world τ D { w with heap := w.heap.push o } := by
  have e : (V.world τ D w).heap.push o = (V.world τ D { w with heap := w.heap.push o }).heap := by
    apply Array.ext_getElem?
    intro i
    rw [veil_heap, Array.getElem?_push, veil_size, Array.getElem?_push, veil_heap]
    by_cases hi : i = w.heap.size
    · subst hi
      have h1 : V.froz w.heap.size = none := by
        cases hf : V.froz w.heap.size with
        | none => rfl
        | some r => have := V.lowF _ _ hf; have := h.top; omega
      have h2 : V.ch w.heap.size = false := by
        cases hf : V.ch w.heap.size with
        | false => rfl
        | true => have := V.lowC _ hf; have := h.top; omega
      cases o <;> simp [Veil.obj, h1, h2]
    · simp [hi]
  rw [e]; rfl
theorem veil_setObj {r : Nat} {o : Obj} (hc : V.ch r = false) (ho : ¬ isCells o) : ({ (V.world τ D w) with heap := (V.world τ D w).heap.setIfInBounds r o } : World) = V.world τ D { w with heap := w.heap.setIfInBounds r o } := by
  have e : (V.world τ D w).heap.setIfInBounds r o = (V.world τ D { w with heap := w.heap.setIfInBounds r o }).heap := by
    apply Array.ext_getElem?
    intro i
    rw [veil_heap, Array.getElem?_setIfInBounds, Array.getElem?_setIfInBounds, veil_heap]
    by_cases hi : r = i
    · subst hi
      by_cases hb : r < w.heap.size
      · rw [if_pos rfl, if_pos rfl, if_pos (by rw [veil_size]; exact hb), if_pos hb]
        cases o <;> simp_all [Veil.obj, isCells]
      · rw [if_pos rfl, if_pos rfl, if_neg (by rw [veil_size]; exact hb), if_neg hb]; rfl
    · simp [hi]
  rw [e]; rfl
theorem veil_freeze {a : Addr} (n : Nat) (hf : V.froz a.block = none) : (V.world τ D w).freeze a n = V.world τ D (w.freeze a n) := by
  by_cases hn : n = 0
  · simp [World.freeze, hn]
  · have e : ((V.world τ D w).freeze a n).heap = (V.world τ D (w.freeze a n)).heap := by
      apply Array.ext_getElem?
      intro i
      rw [veil_heap]
      simp only [World.freeze, hn, if_false, Array.getElem?_modify]
      rw [veil_heap]
      by_cases hi : a.block = i
      · subst hi
        cases hb : w.heap[a.block]? with
        | none => simp
        | some o => cases hc : V.ch a.block <;> cases o <;> simp [Veil.obj, hf, hc]
      · simp [hi]
    have e1 : (V.world τ D w).freeze a n = { (V.world τ D w) with heap := ((V.world τ D w).freeze a n).heap } := by simp [World.freeze, hn]
    have e2 : V.world τ D (w.freeze a n) = { (V.world τ D w) with heap := (V.world τ D (w.freeze a n)).heap } := by simp [World.freeze, hn, Veil.world]
    rw [e1, e, ← e2]
end
end Go.Proofs.Ytodcnhodbeakiaa
