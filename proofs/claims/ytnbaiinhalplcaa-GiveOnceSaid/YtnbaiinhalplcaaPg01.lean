/- A world and its veiled twin: some cells of the twin bear no store, some of its blocks are of no use, its tape is another one. What one runs there alone without coming to grief is what one does in the world itself, and it touches none of those cells and blocks: for the operations' own steps. Of whatever program. Conditions: none. What one reckons in a world one reckons in its veiled twin, or comes to grief there: the judgement, through 'bind' and the primitives. Of whatever program. Conditions: none. The veiled twin, through the operations' own words: loads, stores, variables, types, numbers, panics. Of whatever program. Conditions: none. Conditions: as each theorem states them. -/
import Derived.RunT
import Derived.Conc.Events
import Derived.Laws.Sem
import Derived.Conc.Beside
import GoSem.Dispatch
namespace Go.Proofs.Ytnbaiinhalplcaa
set_option linter.unusedVariables false
set_option linter.unusedSimpArgs false

/-- 'froz': a block's cells that bear no store (from, to); 'ch': blocks that are of no use; 'top': all of them lie below it. -/
structure Veil where
  froz : Nat → Option (Nat × Nat)
  ch : Nat → Bool
  top : Nat
  lowF : ∀ i r, froz i = some r → i < top
  lowC : ∀ i, ch i = true → i < top

def Veil.still (V : Veil) (a : Addr) : Bool := match V.froz a.block with | some (lo, hi) => lo ≤ a.off && a.off < hi | none => false
def Veil.obj (V : Veil) (i : Nat) (o : Obj) : Obj := match o with
  | .cells c t fz => .cells c t ((V.froz i).getD fz)
  | .view a u => if V.ch i then .view ⟨0, 0, some 0⟩ 0 else .view a u
  | o => if V.ch i then .coro none else o
def Veil.world (V : Veil) (τ : Nat → Question → Nat) (D : Nat) (w : World) : World := { heap := w.heap.mapIdx fun i o => V.obj i o, tape := τ, drawn := D, os := w.os, output := w.output }
def veilR {α : Type} (V : Veil) (τ : Nat → Question → Nat) (D : Nat) : Result α → Result α
  | .ok a w => .ok a (V.world τ D w)
  | .halt h w => .halt h (V.world τ D w)

def NiceO : Obj → Prop
  | .view .. | .pending .. | .loop .. => False
  | _ => True
def isCells : Obj → Prop
  | .cells .. => True
  | _ => False
def isNumber : Obj → Prop
  | .number .. => True
  | _ => False
/-- What a poisoned block is in the twin. -/
def isSham : Obj → Prop
  | .coro none => True
  | .view ⟨0, 0, some 0⟩ 0 => True
  | _ => False

structure VOK (V : Veil) (w : World) : Prop where
  top : V.top ≤ w.heap.size
  nice : ∀ i o, w.heap[i]? = some o → V.ch i = true ∨ NiceO o
  chs : ∀ i o, V.ch i = true → w.heap[i]? = some o → ¬ isCells o ∧ ¬ isNumber o
  frz : ∀ i r, V.froz i = some r → ∃ c t, w.heap[i]? = some (.cells c t (0, 0))
structure VKeep (V : Veil) (w w' : World) : Prop where
  size : w.heap.size ≤ w'.heap.size
  chs : ∀ i, V.ch i = true → w'.heap[i]? = w.heap[i]?
  st : ∀ a, V.still a = true → w'.cell? a = w.cell? a
theorem VKeep.refl (V : Veil) (w : World) : VKeep V w w := ⟨Nat.le_refl _, fun _ _ => rfl, fun _ _ => rfl⟩
theorem VKeep.trans {V : Veil} {a b c : World} (h : VKeep V a b) (k : VKeep V b c) : VKeep V a c :=
  ⟨Nat.le_trans h.size k.size, fun i hi => (k.chs i hi).trans (h.chs i hi), fun x hx => (k.st x hx).trans (h.st x hx)⟩

def CalmV (V : Veil) (e : Event) : Prop :=
  (∀ x, (MemAct.ofEvent e).touch? = some x → x.write = true → ∀ c, x.loc = .cell c → V.still c = false) ∧ e.loc ≠ .mark .disable ∧ e.loc ≠ .mark .enable
def Agr (A : List (Question → Nat)) (τ : Nat → Question → Nat) (D : Nat) : Prop := ∀ j f, A[j]? = some f → τ (D + j) = f
theorem Agr.nil (τ : Nat → Question → Nat) (D : Nat) : Agr [] τ D := fun j f h => by simp at h
theorem Agr.left {A B : List (Question → Nat)} {τ : Nat → Question → Nat} {D : Nat} (h : Agr (A ++ B) τ D) : Agr A τ D := fun j f hj => h j f (by
  rw [List.getElem?_append_left (by exact (List.getElem?_eq_some_iff.1 hj).1)]; exact hj)
theorem Agr.right {A B : List (Question → Nat)} {τ : Nat → Question → Nat} {D : Nat} (h : Agr (A ++ B) τ D) : Agr B τ (D + A.length) := fun j f hj => by
  rw [Nat.add_assoc]
  exact h (A.length + j) f (by rw [List.getElem?_append_right (by omega)]; simpa using hj)

def Dead : Halt → Prop
  | .stuck _ => True
  | .unsupported (.initOrder _) => False
  | .unsupported _ => True
  | _ => False

section
variable {V : Veil} {τ : Nat → Question → Nat} {D : Nat} {w : World}

theorem veil_heap (i : Nat) : (V.world τ D w).heap[i]? = (w.heap[i]?).map (V.obj i) := by simp [Veil.world]
theorem veil_size : (V.world τ D w).heap.size = w.heap.size := by simp [Veil.world]
theorem veil_cell (a : Addr) : (V.world τ D w).cell? a = w.cell? a := by
  unfold World.cell?
  rw [veil_heap]
  cases h : w.heap[a.block]? with
  | none => rfl
  | some o => cases hc : V.ch a.block <;> cases o <;> simp [Veil.obj, hc]
theorem veil_shape (r : Nat) : (V.world τ D w).shape? r = w.shape? r := by
  unfold World.shape?
  rw [veil_heap]
  cases h : w.heap[r]? with
  | none => rfl
  | some o => cases hc : V.ch r <;> cases o <;> simp [Veil.obj, hc]
theorem VOK.at (h : VOK V w) (d : Nat) : VOK V (w.at d) := ⟨h.top, h.nice, h.chs, h.frz⟩
theorem VOK.drawn (h : VOK V w) (n : Nat) : VOK V { w with drawn := n } := ⟨h.top, h.nice, h.chs, h.frz⟩

theorem veil_frozen (h : VOK V w) {a : Addr} (ha : V.still a = false) : (V.world τ D w).frozen? a = w.frozen? a := by
  unfold World.frozen?
  rw [veil_heap]
  cases hb : w.heap[a.block]? with
  | none => rfl
  | some o =>
    by_cases hcl : isCells o
    rotate_left
    · cases hc : V.ch a.block <;> cases o <;> simp_all [Veil.obj, isCells]
    cases o <;> simp only [isCells] at hcl
    rename_i c t fz
    simp only [Option.map_some, Veil.obj]
    cases hf : V.froz a.block with
    | none => simp
    | some r =>
      obtain ⟨c', t', hc⟩ := h.frz _ _ hf
      rw [hb] at hc
      obtain ⟨rfl, rfl, rfl⟩ := by simpa using hc
      obtain ⟨lo, hi⟩ := r
      simp only [Veil.still, hf] at ha
      simp only [Option.getD_some, ha]
      simp
theorem veil_still {a : Addr} (h : VOK V w) (ha : V.still a = true) : (V.world τ D w).frozen? a = true := by
  unfold Veil.still at ha
  cases hf : V.froz a.block with
  | none => rw [hf] at ha; cases ha
  | some r =>
    obtain ⟨lo, hi⟩ := r
    rw [hf] at ha
    obtain ⟨c, t, hc⟩ := h.frz _ _ hf
    unfold World.frozen?
    rw [veil_heap, hc]
    simpa [Veil.obj, hf] using ha

/-- No block of the twin is one through which another is seen, or that waits for its beginning, but for those of no use. -/
theorem veil_nice (h : VOK V w) {i : Nat} {o : Obj} (ho : (V.world τ D w).heap[i]? = some o) : NiceO o ∨ isSham o := by
  rw [veil_heap] at ho
  cases hw : w.heap[i]? with
  | none => rw [hw] at ho; cases ho
  | some o' =>
    rw [hw] at ho
    obtain rfl : V.obj i o' = o := by simpa using ho
    rcases h.nice i o' hw with hc | hn
    · cases o' <;> simp [Veil.obj, hc, NiceO, isSham]
    · cases hc : V.ch i <;> cases o' <;> simp_all [Veil.obj, NiceO]

theorem seen_spot (P : Program) (w : World) (x1 x2 : Nat) (u : TypeId) (k : Addr) (b : Bool) : w.seen P ⟨x1, x2, some 0⟩ u k b = .error "memory seen as another type: a place without cells" := by
  obtain ⟨k1, k2, k3⟩ := k
  cases k3 <;> rfl
theorem veil_far_load {P : Program} (h : VOK V w) {a : Addr} (ha : w.cell? a = none) (b : Bool) : ∃ e, Dead e ∧ (V.world τ D w).farLoad P a b = .error e := by
  unfold World.farLoad
  cases hb : (V.world τ D w).heap[a.block]? with
  | none => exact ⟨.stuck "load: no such cell", trivial, by simp [World.noCell, hb]⟩
  | some o =>
    rcases veil_nice h hb with hn | hn
    · refine ⟨.stuck "load: no such cell", trivial, ?_⟩
      cases o <;> simp_all [NiceO, World.noCell]
    · cases o with
      | coro x => exact ⟨.stuck "load: no such cell", trivial, by simp [World.noCell, hb]⟩
      | view x y =>
        obtain ⟨x1, x2, x3⟩ := x
        have : x3 = some 0 := by
          unfold isSham at hn
          split at hn
          · rename_i e; cases e
          · rename_i e; cases e; rfl
          · exact hn.elim
        subst this
        exact ⟨.unsupported (.unsafePointer "memory seen as another type: a place without cells"), trivial, by simp only [World.viewLoad, seen_spot]; rfl⟩
      | _ => exact hn.elim
theorem veil_far_store {P : Program} (h : VOK V w) {a : Addr} (v : Value) (b : Bool) : ∃ e, Dead e ∧ (V.world τ D w).farStore P a v b = .error e := by
  unfold World.farStore
  cases hb : (V.world τ D w).heap[a.block]? with
  | none => exact ⟨.stuck "store: no such cell", trivial, by simp [World.noCell, hb]⟩
  | some o =>
    rcases veil_nice h hb with hn | hn
    · refine ⟨.stuck "store: no such cell", trivial, ?_⟩
      cases o <;> simp_all [NiceO, World.noCell]
    · cases o with
      | coro x => exact ⟨.stuck "store: no such cell", trivial, by simp [World.noCell, hb]⟩
      | view x y =>
        obtain ⟨x1, x2, x3⟩ := x
        have : x3 = some 0 := by
          unfold isSham at hn
          split at hn
          · rename_i e; cases e
          · rename_i e; cases e; rfl
          · exact hn.elim
        subst this
        by_cases ht : tight P P.depth y = true
        · exact ⟨.unsupported (.unsafePointer "memory seen as another type: a place without cells"), trivial, by simp only [World.viewStore, seen_spot, ht]; rfl⟩
        · exact ⟨.unsupported (.unsafePointer "memory seen as another type: a store through a type with padding"), trivial, by simp only [World.viewStore, show tight P P.depth y = false from by simpa using ht]; rfl⟩
      | _ => exact hn.elim

theorem veil_setCell (h : VOK V w) (a : Addr) (v : Value) : (V.world τ D w).setCell a v = V.world τ D (w.setCell a v) := by
  have e : ((V.world τ D w).setCell a v).heap = (V.world τ D (w.setCell a v)).heap := by
    apply Array.ext_getElem?
    intro i
    rw [veil_heap]
    simp only [World.setCell, Array.getElem?_modify]
    rw [veil_heap]
    by_cases hi : a.block = i
    · subst hi
      cases hb : w.heap[a.block]? with
      | none => simp
      | some o => cases hc : V.ch a.block <;> cases o <;> simp [Veil.obj, hc]
    · simp [hi]
  calc (V.world τ D w).setCell a v = { (V.world τ D w) with heap := ((V.world τ D w).setCell a v).heap } := rfl
    _ = V.world τ D (w.setCell a v) := by rw [e]; rfl
theorem veil_alloc {o : Obj} (h : VOK V w) : ({ (V.world τ D w) with heap := (V.world τ D w).heap.push o } : World) = V.world τ D { w with heap := w.heap.push o } := by
  have e : (V.world τ D w).heap.push o = (V.world τ D { w with heap := w.heap.push o }).heap := by
    apply Array.ext_getElem?
    intro i
    rw [veil_heap, Array.getElem?_push, veil_size, Array.getElem?_push, veil_heap]
    by_cases hi : i = w.heap.size
    · subst hi
      have h1 : V.froz w.heap.size = none := by
        cases hf : V.froz w.heap.size with
        | none => rfl
        | some r => have := V.lowF _ _ hf; have := h.top; omega
      have h2 : V.ch w.heap.size = false := by
        cases hf : V.ch w.heap.size with
        | false => rfl
        | true => have := V.lowC _ hf; have := h.top; omega
      cases o <;> simp [Veil.obj, h1, h2]
    · simp [hi]
  rw [e]; rfl
theorem veil_setObj {r : Nat} {o : Obj} (hc : V.ch r = false) (ho : ¬ isCells o) : ({ (V.world τ D w) with heap := (V.world τ D w).heap.setIfInBounds r o } : World) = V.world τ D { w with heap := w.heap.setIfInBounds r o } := by
  have e : (V.world τ D w).heap.setIfInBounds r o = (V.world τ D { w with heap := w.heap.setIfInBounds r o }).heap := by
    apply Array.ext_getElem?
    intro i
    rw [veil_heap, Array.getElem?_setIfInBounds, Array.getElem?_setIfInBounds, veil_heap]
    by_cases hi : r = i
    · subst hi
      by_cases hb : r < w.heap.size
      · rw [if_pos rfl, if_pos rfl, if_pos (by rw [veil_size]; exact hb), if_pos hb]
        cases o <;> simp_all [Veil.obj, isCells]
      · rw [if_pos rfl, if_pos rfl, if_neg (by rw [veil_size]; exact hb), if_neg hb]; rfl
    · simp [hi]
  rw [e]; rfl
end
end Go.Proofs.Ytnbaiinhalplcaa

namespace Go.Proofs.Ytnbaiinhalplcaa
set_option linter.unusedVariables false
set_option linter.unusedSimpArgs false

/-- It goes in the world, to an answer that meets Q or to a panic, and in the twin just so. -/
def Follow {α : Type} (V : Veil) (P : Program) (Q : α → Prop) (s : Sem α) (w : World) : Prop :=
  ∃ A : List (Question → Nat), (match s.run P w with
    | .ok a w' => Q a ∧ VOK V w' ∧ VKeep V w w'
    | .halt (.panic _) w' => VOK V w' ∧ VKeep V w w'
    | .halt _ _ => False) ∧ (∀ es, ∀ e ∈ (s.runT P w es).2, e ∈ es ∨ CalmV V e) ∧ ∀ τ D, Agr A τ D → s.run P (V.world τ D w) = veilR V τ (D + A.length) (s.run P w)
/-- In the twin it comes to grief. -/
def Dies {α : Type} (V : Veil) (P : Program) (s : Sem α) (w : World) : Prop :=
  ∃ A : List (Question → Nat), ∀ τ D, Agr A τ D → ∃ h w', Dead h ∧ s.run P (V.world τ D w) = .halt h w'
def Sim {α : Type} (V : Veil) (P : Program) (s : Sem α) (Q : α → Prop) : Prop := ∀ w, VOK V w → Follow V P Q s w ∨ Dies V P s w

section
variable {V : Veil} {P : Program} {α β : Type}

theorem Dies.now {s : Sem α} {w : World} (h : ∀ τ D, ∃ h w', Dead h ∧ s.run P (V.world τ D w) = .halt h w') : Dies V P s w := ⟨[], fun τ D _ => h τ D⟩

theorem Sim.mono {s : Sem α} {Q Q' : α → Prop} (h : Sim V P s Q) (hq : ∀ a, Q a → Q' a) : Sim V P s Q' := fun w hw => by
  refine (h w hw).imp (fun ⟨A, h1, h2, h3⟩ => ⟨A, ?_, h2, h3⟩) id
  cases hr : s.run P w with
  | ok a w' => rw [hr] at h1; exact ⟨hq a h1.1, h1.2⟩
  | halt h w' => rw [hr] at h1; cases h <;> exact h1

theorem Sim.bind {s : Sem α} {f : α → Sem β} {Q : α → Prop} {R : β → Prop} (hs : Sim V P s Q) (hf : ∀ a, Q a → Sim V P (f a) R) : Sim V P (s >>= f) R := by
  intro w hw
  rcases hs w hw with ⟨A, h1, h2, h3⟩ | ⟨A, h⟩
  · cases hr : s.run P w with
    | halt hh w' =>
      rw [hr] at h1
      refine .inl ⟨A, ?_, fun es e he => ?_, fun τ D hA => ?_⟩
      · rw [Sem.run_bind, hr]; cases hh <;> exact h1
      · have := h2 es e
        have hb : ((s >>= f).runT P w es).2 = (s.runT P w es).2 := by
          show ((s.bind f).runT P w es).2 = _
          rw [Sem.runT_bind']
          have := Sem.runT_fst P s w es
          rw [hr] at this
          cases hT : s.runT P w es with
          | mk a b => rw [hT] at this; simp only at this; subst this; rfl
        rw [hb] at he
        exact this he
      · rw [Sem.run_bind, h3 τ D hA, Sem.run_bind, hr]; rfl
    | ok a w' =>
      rw [hr] at h1
      obtain ⟨hq, hv, hk⟩ := h1
      have hT : ∀ es, s.runT P w es = (.ok a w', (s.runT P w es).2) := fun es => by
        have := Sem.runT_fst P s w es
        rw [hr] at this
        rw [← this]
      rcases hf a hq w' hv with ⟨B, g1, g2, g3⟩ | ⟨B, g⟩
      · refine .inl ⟨A ++ B, ?_, fun es e he => ?_, fun τ D hA => ?_⟩
        · rw [Sem.run_bind, hr]
          simp only [Result.andThen]
          cases hr2 : (f a).run P w' with
          | ok b w'' => rw [hr2] at g1; exact ⟨g1.1, g1.2.1, hk.trans g1.2.2⟩
          | halt hh w'' =>
            rw [hr2] at g1
            cases hh <;> first | exact ⟨g1.1, hk.trans g1.2⟩ | exact g1
        · have he' : e ∈ ((s.bind f).runT P w es).2 := he
          rw [Sem.runT_bind', hT es] at he'
          rcases g2 _ e he' with z | z
          · exact h2 es e z
          · exact .inr z
        · rw [Sem.run_bind, h3 τ D hA.left, hr, Sem.run_bind, hr]
          show (f a).run P (V.world τ (D + A.length) w') = veilR V τ _ ((f a).run P w')
          rw [g3 τ _ hA.right, List.length_append, Nat.add_assoc]
      · refine .inr ⟨A ++ B, fun τ D hA => ?_⟩
        obtain ⟨hh, w'', hd, hg⟩ := g τ _ hA.right
        exact ⟨hh, w'', hd, by rw [Sem.run_bind, h3 τ D hA.left, hr]; exact hg⟩
  · refine .inr ⟨A, fun τ D hA => ?_⟩
    obtain ⟨hh, w', hd, hr⟩ := h τ D hA
    exact ⟨hh, w', hd, by rw [Sem.run_bind, hr]; rfl⟩

theorem Sim.bindT {s : Sem α} {f : α → Sem β} {R : β → Prop} (hs : Sim V P s fun _ => True) (hf : ∀ a, Sim V P (f a) R) : Sim V P (s >>= f) R := hs.bind fun a _ => hf a

/-- One step that yields the same in both. -/
theorem Sim.same {s : Sem α} {Q : α → Prop} {w : World} {a : α} {w' : World} (hr : s.run P w = .ok a w') (hq : Q a) (hv : VOK V w') (hk : VKeep V w w') (he : ∀ es, ∀ e ∈ (s.runT P w es).2, e ∈ es ∨ CalmV V e)
    (ht : ∀ τ D, s.run P (V.world τ D w) = .ok a (V.world τ D w')) : Follow V P Q s w :=
  ⟨[], by rw [hr]; exact ⟨hq, hv, hk⟩, he, fun τ D _ => by rw [ht, hr]; rfl⟩

theorem Sim.pure {a : α} {Q : α → Prop} (h : Q a) : Sim V P (pure a) Q := fun w hw => .inl (Sim.same (a := a) (w' := w) rfl h hw (VKeep.refl V w) (fun es e he => .inl he) (fun _ _ => rfl))
theorem Sim.pureT {a : α} : Sim V P (Pure.pure a : Sem α) fun _ => True := Sim.pure trivial
theorem Sim.panic {v : Value} {Q : α → Prop} : Sim V P (.halt (.panic v) : Sem α) Q := fun w hw =>
  .inl ⟨[], ⟨hw, VKeep.refl V w⟩, fun es e he => .inl he, fun τ D _ => rfl⟩
theorem Sim.dead {h : Halt} {Q : α → Prop} (hd : Dead h) : Sim V P (.halt h : Sem α) Q := fun w hw => .inr (Dies.now fun τ D => ⟨h, _, hd, rfl⟩)
theorem Sim.stuck {s : String} {Q : α → Prop} : Sim V P (stuck s : Sem α) Q := Sim.dead (h := .stuck s) trivial
theorem Sim.unsupported {u : Unsupported} {Q : α → Prop} (hu : ∀ g, u ≠ .initOrder g) : Sim V P (unsupported u : Sem α) Q := Sim.dead (h := .unsupported u) (by cases u <;> first | trivial | exact absurd rfl (hu _))
theorem Sim.goPanic {v : Value} {Q : α → Prop} : Sim V P (goPanic v : Sem α) Q := Sim.panic

theorem Sim.program : Sim V P Go.program fun p => p = P := fun w hw => .inl (Sim.same (a := P) (w' := w) rfl rfl hw (VKeep.refl V w) (fun es e he => .inl he) (fun _ _ => rfl))
theorem Sim.shape (r : Nat) : Sim V P (Go.shape r) fun _ => True := fun w hw =>
  .inl (Sim.same (a := w.shape? r) (w' := w) rfl trivial hw (VKeep.refl V w) (fun es e he => .inl he) (fun τ D => by show Result.ok _ _ = _; rw [veil_shape]))
theorem Sim.choose (q : Question) : Sim V P (Go.choose q) fun _ => True := fun w hw => by
  by_cases hf : q.forced = true
  · refine .inl (Sim.same (a := 0) (w' := w) ?_ trivial hw (VKeep.refl V w) (fun es e he => ?_) (fun τ D => ?_))
    · simp [Go.choose, Sem.run, hf]
    · simp only [Go.choose, Sem.runT, hf, if_true] at he; exact .inl he
    · simp [Go.choose, Sem.run, hf]
  · refine .inl ⟨[w.tape w.drawn], ?_, fun es e he => ?_, fun τ D hA => ?_⟩
    · simp only [Go.choose, Sem.run, hf, if_false, Bool.false_eq_true]
      exact ⟨trivial, hw.drawn _, ⟨Nat.le_refl _, fun _ _ => rfl, fun _ _ => rfl⟩⟩
    · simp only [Go.choose, Sem.runT, hf, if_false, Bool.false_eq_true] at he; exact .inl he
    · have h0 : τ D = w.tape w.drawn := hA 0 _ rfl
      simp only [Go.choose, Sem.run, hf, if_false, Bool.false_eq_true, veilR]
      simp [Veil.world, h0]

theorem VKeep.setCell {w : World} {a : Addr} (v : Value) (hw : VOK V w) (ha : V.still a = false) {x : Value} (hx : w.cell? a = some x) : VOK V (w.setCell a v) ∧ VKeep V w (w.setCell a v) := by
  have hob : ∀ i, i ≠ a.block → (w.setCell a v).heap[i]? = w.heap[i]? := fun i hi => by simp [World.setCell, Array.getElem?_modify, Ne.symm hi]
  obtain ⟨c, t, fz, hc⟩ : ∃ c t fz, w.heap[a.block]? = some (.cells c t fz) := by
    unfold World.cell? at hx
    split at hx
    · exact ⟨_, _, _, ‹_›⟩
    · cases hx
  have hbl : (w.setCell a v).heap[a.block]? = some (.cells (if a.spot.isSome then c else c.setIfInBounds a.off v) t fz) := by simp [World.setCell, Array.getElem?_modify, hc]
  refine ⟨⟨by simpa [World.setCell] using hw.top, fun i o ho => ?_, fun i o hi ho => ?_, fun i r hr => ?_⟩, ⟨by simp [World.setCell], fun i hi => ?_, fun b hb => ?_⟩⟩
  · by_cases e : i = a.block
    · subst e; rw [hbl] at ho; obtain rfl := Option.some.inj ho; exact .inr trivial
    · rw [hob i e] at ho; exact hw.nice i o ho
  · by_cases e : i = a.block
    · subst e; exact absurd trivial (hw.chs _ _ hi hc).1
    · rw [hob i e] at ho; exact hw.chs i o hi ho
  · obtain ⟨c', t', h'⟩ := hw.frz i r hr
    by_cases e : i = a.block
    · subst e
      rw [hc] at h'
      obtain ⟨rfl, rfl, rfl⟩ := by simpa using h'
      exact ⟨_, _, hbl⟩
    · exact ⟨c', t', by rw [hob i e]; exact h'⟩
  · by_cases e : i = a.block
    · subst e; exact absurd trivial (hw.chs _ _ hi hc).1
    · exact hob i e
  · by_cases e : b.block = a.block
    · have hne : b.spot.isSome = true ∨ b.off ≠ a.off ∨ a.spot.isSome = true := by
        by_cases h1 : b.spot.isSome = true
        · exact .inl h1
        · by_cases h2 : a.spot.isSome = true
          · exact .inr (.inr h2)
          · refine .inr (.inl fun h3 => ?_)
            have : V.still b = V.still a := by unfold Veil.still; rw [e, h3]
            rw [this, ha] at hb; cases hb
      unfold World.cell?
      rw [e, hbl, hc]
      rcases hne with h1 | h1 | h1
      · simp [h1]
      · by_cases h2 : a.spot.isSome = true
        · simp [h2]
        · simp only [h2, if_false, Bool.false_eq_true]
          by_cases h3 : b.spot.isSome = true
          · simp [h3]
          · simp only [h3, if_false, Bool.false_eq_true]
            rw [Array.getElem?_setIfInBounds_ne (fun z => h1 z.symm)]
      · simp [h1]
    · unfold World.cell?
      rw [hob _ e]

theorem Sim.load (a : Addr) (m : Mode) : Sim V P (Go.load a m) fun _ => True := fun w hw => by
  cases hc : w.cell? a with
  | some v =>
    refine .inl (Sim.same (a := v) (w' := w) (by simp [Go.load, Sem.run, hc]) trivial hw (VKeep.refl V w) (fun es e he => ?_) (fun τ D => by simp [Go.load, Sem.run, veil_cell, hc]))
    simp only [Go.load, Sem.runT, hc] at he
    rcases Array.mem_push.1 he with z | rfl
    · exact .inl z
    · exact .inr ⟨fun x hx hw => (by simp [MemAct.ofEvent, MemAct.touch?] at hx; subst hx; cases hw), by simp, by simp⟩
  | none =>
    refine .inr (Dies.now fun τ D => ?_)
    obtain ⟨s, hd, hs⟩ := veil_far_load (τ := τ) (D := D) (P := P) hw hc (m == .atomic)
    exact ⟨s, V.world τ D w, hd, by simp [Go.load, Sem.run, veil_cell, hc, hs]⟩

theorem run_store_agg {P : Program} {w : World} {a : Addr} {m : Mode} {x : Value} (h : (∃ l, x = .agg l) ∨ ∃ l, x = .tuple l) : (Go.store a x m).run P w = .halt (.stuck "store: not the value of one cell") w := by
  rcases h with ⟨l, rfl⟩ | ⟨l, rfl⟩ <;> rfl
theorem run_store_cell {P : Program} {w : World} {a : Addr} {m : Mode} {x : Value} (h1 : ∀ l, x ≠ .agg l) (h2 : ∀ l, x ≠ .tuple l) : (Go.store a x m).run P w = match w.cell? a with
    | some _ => if w.frozen? a then .halt (.unsupported (.unsafePointer "a write to bytes that a string shares")) w else .ok () (w.setCell a x)
    | none => match w.farStore P a x (m == .atomic) with
      | .ok (w, _) => .ok () w
      | .error h => .halt h w := by
  cases x <;> first | exact absurd rfl (h1 _) | exact absurd rfl (h2 _) | rfl
theorem runT_store_cell {P : Program} {w : World} {a : Addr} {m : Mode} {x v : Value} {es : Array Event} (h1 : ∀ l, x ≠ .agg l) (h2 : ∀ l, x ≠ .tuple l) (hc : w.cell? a = some v) (hf : w.frozen? a = false) : ((Go.store a x m).runT P w es).2 = es.push ⟨.cell a, true, m == .atomic⟩ := by
  cases x <;> first | exact absurd rfl (h1 _) | exact absurd rfl (h2 _) | simp only [Go.store, Sem.runT, hc, hf, if_false, Bool.false_eq_true]

theorem Sim.store (a : Addr) (x : Value) (m : Mode) : Sim V P (Go.store a x m) fun _ => True := fun w hw => by
  by_cases hx : (∃ l, x = .agg l) ∨ ∃ l, x = .tuple l
  · exact .inr (Dies.now fun τ D => ⟨.stuck "store: not the value of one cell", V.world τ D w, trivial, run_store_agg hx⟩)
  have h1 : ∀ l, x ≠ .agg l := fun l e => hx (.inl ⟨l, e⟩)
  have h2 : ∀ l, x ≠ .tuple l := fun l e => hx (.inr ⟨l, e⟩)
  cases hc : w.cell? a with
  | none =>
    refine .inr (Dies.now fun τ D => ?_)
    obtain ⟨s, hd, hs⟩ := veil_far_store (τ := τ) (D := D) (P := P) (a := a) hw x (m == .atomic)
    exact ⟨s, V.world τ D w, hd, by rw [run_store_cell h1 h2, veil_cell, hc]; simp only [hs]⟩
  | some v =>
    by_cases ha : V.still a = true
    · exact .inr (Dies.now fun τ D => ⟨.unsupported (.unsafePointer "a write to bytes that a string shares"), V.world τ D w, trivial, by rw [run_store_cell h1 h2, veil_cell, hc]; simp only [veil_still hw ha, if_true]⟩)
    have ha' : V.still a = false := by simpa using ha
    by_cases hf : w.frozen? a = true
    · exact .inr (Dies.now fun τ D => ⟨.unsupported (.unsafePointer "a write to bytes that a string shares"), V.world τ D w, trivial, by rw [run_store_cell h1 h2, veil_cell, hc]; simp only [veil_frozen hw ha', hf, if_true]⟩)
    have hf' : w.frozen? a = false := by simpa using hf
    obtain ⟨k1, k2⟩ := VKeep.setCell x hw ha' hc
    refine .inl (Sim.same (a := ()) (w' := w.setCell a x) (by rw [run_store_cell h1 h2, hc]; simp only [hf', if_false, Bool.false_eq_true]) trivial k1 k2 (fun es e he => ?_)
      (fun τ D => by rw [run_store_cell h1 h2, veil_cell, hc]; simp only [veil_frozen hw ha', hf', if_false, Bool.false_eq_true]; rw [veil_setCell hw]))
    rw [runT_store_cell h1 h2 hc hf'] at he
    rcases Array.mem_push.1 he with z | rfl
    · exact .inl z
    · refine .inr ⟨fun y hy _ c hl => ?_, by simp, by simp⟩
      simp [MemAct.ofEvent, MemAct.touch?] at hy
      subst hy
      cases hl
      exact ha'

theorem Sim.newObj (o : Obj) (ho : NiceO o) : Sim V P (Go.newObj o) fun r => V.top ≤ r := fun w hw => by
  refine .inl (Sim.same (a := w.heap.size) (w' := { w with heap := w.heap.push o }) rfl hw.top ?_ ?_ (fun es e he => .inl he) (fun τ D => ?_))
  · have hob : ∀ i, i ≠ w.heap.size → (w.heap.push o)[i]? = w.heap[i]? := fun i hi => by rw [Array.getElem?_push, if_neg hi]
    refine ⟨by have := hw.top; simp; omega, fun i x hx => ?_, fun i x hi hx => ?_, fun i r hr => ?_⟩
    · by_cases e : i = w.heap.size
      · subst e; simp at hx; subst hx; exact .inr ho
      · simp only [hob i e] at hx; exact hw.nice i x hx
    · have := V.lowC i hi
      have ht := hw.top
      simp only [hob i (by omega)] at hx; exact hw.chs i x hi hx
    · have := V.lowF i r hr
      have ht := hw.top
      obtain ⟨c, t, h⟩ := hw.frz i r hr
      exact ⟨c, t, by simp only [hob i (by omega)]; exact h⟩
  · refine ⟨by simp, fun i hi => ?_, fun b hb => ?_⟩
    · have := V.lowC i hi
      have ht := hw.top
      show (w.heap.push o)[i]? = _
      rw [Array.getElem?_push, if_neg (by omega)]
    · unfold Veil.still at hb
      cases hf : V.froz b.block with
      | none => rw [hf] at hb; cases hb
      | some r =>
        have := V.lowF _ _ hf
        have ht := hw.top
        unfold World.cell?
        rw [show ({ w with heap := w.heap.push o } : World).heap[b.block]? = w.heap[b.block]? from by show (w.heap.push o)[b.block]? = _; rw [Array.getElem?_push, if_neg (by omega)]]
  · show Result.ok _ _ = _
    rw [veil_alloc hw, veil_size]

theorem Sim.frozen (a : Addr) (ha : V.still a = false) : Sim V P (Go.frozen a) fun _ => True := fun w hw =>
  .inl (Sim.same (a := w.frozen? a) (w' := w) rfl trivial hw (VKeep.refl V w) (fun es e he => .inl he) (fun τ D => by show Result.ok _ _ = _; rw [veil_frozen hw ha]))

theorem Sim.getObj {r : Nat} {k : Obj → Sem β} {R : β → Prop} (hk : ∀ o, NiceO o → ¬ isCells o → V.ch r = false → Sim V P (k o) R) (hd : ∀ o, isSham o → ∃ h, Dead h ∧ k o = .halt h) : Sim V P (Go.getObj r >>= k) R := by
  intro w hw
  cases ho : w.heap[r]? with
  | none => exact .inr (Dies.now fun τ D => ⟨.stuck "getObj: no such block", V.world τ D w, trivial, by show ((Sem.getObj r .pure).bind k).run P _ = _; simp [Sem.bind, Sem.run, veil_heap, ho]⟩)
  | some o =>
    by_cases hcl : isCells o
    · refine .inr (Dies.now fun τ D => ⟨.stuck "getObj: a row of cells", V.world τ D w, trivial, ?_⟩)
      cases o <;> simp only [isCells] at hcl
      show ((Sem.getObj r .pure).bind k).run P _ = _
      simp [Sem.bind, Sem.run, veil_heap, ho, Veil.obj]
    · by_cases hch : V.ch r = true
      · have hL : ∃ o', isSham o' ∧ ∀ τ D, (V.world τ D w).heap[r]? = some o' := by
          cases o with
          | cells c t f => exact absurd trivial hcl
          | view a u => exact ⟨.view ⟨0, 0, some 0⟩ 0, trivial, fun τ D => by rw [veil_heap, ho]; simp [Veil.obj, hch]⟩
          | _ => exact ⟨.coro none, trivial, fun τ D => by rw [veil_heap, ho]; simp [Veil.obj, hch]⟩
        obtain ⟨o', hs, hL⟩ := hL
        obtain ⟨h, hdd, hke⟩ := hd o' hs
        refine .inr (Dies.now fun τ D => ⟨h, V.world τ D w, hdd, ?_⟩)
        have hL' := hL τ D
        show ((Sem.getObj r .pure).bind k).run P _ = _
        cases o' <;> first | exact hs.elim | simp only [Sem.bind, Sem.run, hL', hke]
      · have hch' : V.ch r = false := by simpa using hch
        have hn : NiceO o := (hw.nice r o ho).elim (fun z => absurd z hch) id
        have hrunW : ∀ {γ : Type} (w₁ : World) (k : Obj → Sem γ), w₁.heap[r]? = some o → (Go.getObj r >>= k).run P w₁ = (k o).run P w₁ := by
          intro γ w₁ k h1
          show ((Sem.getObj r .pure).bind k).run P _ = _
          cases o <;> first | exact absurd trivial hcl | simp only [Sem.bind, Sem.run, h1]
        have hrunT : ∀ es, (Go.getObj r >>= k).runT P w es = (k o).runT P w (es.push ⟨.obj r, false, o.isChan⟩) := by
          intro es
          show ((Sem.getObj r .pure).bind k).runT P _ _ = _
          cases o <;> first | exact absurd trivial hcl | simp only [Sem.bind, Sem.runT, ho]
        have hL : ∀ τ D, (V.world τ D w).heap[r]? = some o := fun τ D => by rw [veil_heap, ho]; cases o <;> simp_all [Veil.obj, isCells]
        rcases hk o hn hcl hch' w hw with ⟨A, h1, h2, h3⟩ | ⟨A, h⟩
        · refine .inl ⟨A, by rw [hrunW w k ho]; exact h1, fun es e he => ?_, fun τ D hA => by rw [hrunW _ k (hL τ D), hrunW w k ho]; exact h3 τ D hA⟩
          rw [hrunT] at he
          rcases h2 _ e he with z | z
          · rcases Array.mem_push.1 z with z | rfl
            · exact .inl z
            · exact .inr ⟨fun x hx hw' => (by simp [MemAct.ofEvent, MemAct.touch?] at hx; subst hx; cases hw'), by simp, by simp⟩
          · exact .inr z
        · exact .inr ⟨A, fun τ D hA => by rw [hrunW _ k (hL τ D)]; exact h τ D hA⟩

theorem Sim.setObj {r : Nat} {o : Obj} (hc : V.ch r = false) (ho : ¬ isCells o) (hn : NiceO o) : Sim V P (Go.setObj r o) fun _ => True := fun w hw => by
  cases hr : w.heap[r]? with
  | none => exact .inr (Dies.now fun τ D => ⟨.stuck "setObj: no such block", V.world τ D w, trivial, by simp [Go.setObj, Sem.run, veil_heap, hr]⟩)
  | some x =>
    by_cases hcl : isCells x
    · refine .inr (Dies.now fun τ D => ⟨.stuck "setObj: a row of cells", V.world τ D w, trivial, ?_⟩)
      cases x <;> simp only [isCells] at hcl
      simp [Go.setObj, Sem.run, veil_heap, hr, Veil.obj]
    · have hL : ∀ τ D, (V.world τ D w).heap[r]? = some x := fun τ D => by rw [veil_heap, hr]; cases x <;> simp_all [Veil.obj, isCells]
      have hfz : V.froz r = none := by
        cases hf : V.froz r with
        | none => rfl
        | some p => obtain ⟨c, t, h⟩ := hw.frz r p hf; rw [hr] at h; obtain rfl := Option.some.inj h; exact absurd trivial hcl
      have hob : ∀ i, i ≠ r → (w.heap.setIfInBounds r o)[i]? = w.heap[i]? := fun i hi => Array.getElem?_setIfInBounds_ne (Ne.symm hi)
      have hlt : r < w.heap.size := (Array.getElem?_eq_some_iff.1 hr).1
      refine .inl (Sim.same (a := ()) (w' := { w with heap := w.heap.setIfInBounds r o }) ?_ trivial ⟨by simpa using hw.top, fun i y hy => ?_, fun i y hi hy => ?_, fun i p hp => ?_⟩ ⟨by simp, fun i hi => ?_, fun b hb => ?_⟩ (fun es e he => ?_) (fun τ D => ?_))
      · cases x <;> first | exact absurd trivial hcl | simp only [Go.setObj, Sem.run, hr]
      · by_cases e : i = r
        · subst e; simp [hlt] at hy; subst hy; exact .inr hn
        · simp only [hob i e] at hy; exact hw.nice i y hy
      · by_cases e : i = r
        · subst e; rw [hc] at hi; cases hi
        · simp only [hob i e] at hy; exact hw.chs i y hi hy
      · have e : i ≠ r := fun e => by rw [e, hfz] at hp; cases hp
        obtain ⟨c, t, h⟩ := hw.frz i p hp
        exact ⟨c, t, by simp only [hob i e]; exact h⟩
      · have e : i ≠ r := fun e => by rw [e, hc] at hi; cases hi
        exact hob i e
      · unfold Veil.still at hb
        have e : b.block ≠ r := fun e => by rw [e, hfz] at hb; cases hb
        unfold World.cell?
        rw [show ({ w with heap := w.heap.setIfInBounds r o } : World).heap[b.block]? = w.heap[b.block]? from hob _ e]
      · have he' : e ∈ es.push ⟨.obj r, true, o.isChan⟩ := by cases x <;> first | exact absurd trivial hcl | (simp only [Go.setObj, Sem.runT, hr] at he; exact he)
        rcases Array.mem_push.1 he' with z | rfl
        · exact .inl z
        · refine .inr ⟨fun y hy _ c hl => ?_, by simp, by simp⟩
          cases ho' : o.isChan <;> simp [MemAct.ofEvent, MemAct.touch?, ho'] at hy
          subst hy
          cases hl
      · have hx := hL τ D
        have e1 : (Go.setObj r o).run P (V.world τ D w) = .ok () { (V.world τ D w) with heap := (V.world τ D w).heap.setIfInBounds r o } := by cases x <;> first | exact absurd trivial hcl | simp only [Go.setObj, Sem.run, hx]
        rw [e1, veil_setObj hc ho]

theorem Sim.mark (m : Mark) (h1 : m ≠ .disable) (h2 : m ≠ .enable) (h3 : ∀ a, m ≠ .write a) : Sim V P (Go.mark m) fun _ => True := fun w hw => by
  refine .inl (Sim.same (a := ()) (w' := w) rfl trivial hw (VKeep.refl V w) (fun es e he => ?_) (fun _ _ => rfl))
  have he' : e ∈ es.push ⟨.mark m, false, true⟩ := he
  rcases Array.mem_push.1 he' with z | rfl
  · exact .inl z
  · refine .inr ⟨fun y hy hw' => ?_, by simpa using h1, by simpa using h2⟩
    cases m <;> simp [MemAct.ofEvent, MemAct.touch?] at hy <;> first | (subst hy; cases hw'; done) | exact absurd rfl (h3 _)

theorem Sim.ite {c : Prop} [Decidable c] {s t : Sem α} {Q : α → Prop} (hs : c → Sim V P s Q) (ht : ¬ c → Sim V P t Q) : Sim V P (if c then s else t) Q := by
  by_cases h : c
  · rw [if_pos h]; exact hs h
  · rw [if_neg h]; exact ht h
end
end Go.Proofs.Ytnbaiinhalplcaa

namespace Go.Proofs.Ytnbaiinhalplcaa
set_option linter.unusedVariables false
set_option linter.unusedSimpArgs false

section
variable {V : Veil} {P : Program} {α β : Type}

abbrev SimT {α : Type} (V : Veil) (P : Program) (s : Sem α) : Prop := Sim V P s fun _ => True

theorem Sim.toT {s : Sem α} {Q : α → Prop} (h : Sim V P s Q) : SimT V P s := h.mono fun _ _ => trivial
theorem SimT.unsup {u : Unsupported} {Q : α → Prop} (hu : (match u with | .initOrder _ => False | _ => True)) : Sim V P (Go.unsupported u : Sem α) Q := Sim.unsupported fun g e => by subst e; exact hu
theorem SimT.newObj (o : Obj) (ho : NiceO o) : SimT V P (Go.newObj o) := (Sim.newObj o ho).toT
theorem SimT.program : SimT V P Go.program := Sim.program.toT
theorem SimT.map {s : Sem α} {f : α → β} (h : SimT V P s) : SimT V P (f <$> s) := by
  show SimT V P (s.bind fun a => .pure (f a))
  exact Sim.bindT h fun _ => Sim.pureT

theorem simT_typeInfo (t : TypeId) : SimT V P (typeInfo t) := by
  unfold typeInfo
  refine Sim.bindT SimT.program fun p => ?_
  split
  · exact Sim.pureT
  · exact Sim.stuck
theorem simT_underlying (t : TypeId) : SimT V P (underlying t) := by
  unfold underlying
  refine Sim.bindT SimT.program fun p => ?_
  split
  · exact Sim.pureT
  · exact Sim.stuck
theorem simT_zeroValue (t : TypeId) : SimT V P (zeroValue t) := by
  unfold zeroValue
  refine Sim.bindT (simT_typeInfo t) fun p => ?_
  split
  · exact Sim.pureT
  · exact SimT.unsup trivial
theorem simT_sizeOf (t : TypeId) : SimT V P (sizeOf t) := by
  unfold sizeOf
  exact Sim.bindT (simT_typeInfo t) fun p => Sim.pureT
theorem simT_isAgg (t : TypeId) : SimT V P (isAgg t) := by
  unfold isAgg
  refine Sim.bindT (simT_underlying t) fun p => ?_
  split <;> exact Sim.pureT
theorem simT_loadCellsFrom (a : Addr) : ∀ (n i : Nat) (acc : Array Value), SimT V P (loadCellsFrom a i n acc)
  | 0, i, acc => Sim.pureT
  | n + 1, i, acc => by
    unfold loadCellsFrom
    exact Sim.bindT (Sim.load _ _) fun v => simT_loadCellsFrom a n (i + 1) _
theorem simT_loadCells (a : Addr) (n : Nat) : SimT V P (loadCells a n) := simT_loadCellsFrom a n 0 _
theorem simT_storeCells (a : Addr) : ∀ (vs : List Value) (i : Nat), SimT V P (storeCells a vs i)
  | [], i => Sim.pureT
  | v :: rest, i => by
    unfold storeCells
    exact Sim.bindT (Sim.store _ _ _) fun _ => simT_storeCells a rest (i + 1)
theorem simT_loadVar (t : TypeId) (a : Addr) : SimT V P (loadVar t a) := by
  unfold loadVar
  refine Sim.bindT (simT_isAgg t) fun b => ?_
  split
  · exact Sim.bindT (simT_sizeOf t) fun n => Sim.bindT (simT_loadCells a n) fun _ => Sim.pureT
  · exact Sim.load _ _
theorem simT_storeVar (t : TypeId) (a : Addr) (v : Value) : SimT V P (storeVar t a v) := by
  unfold storeVar
  refine Sim.bindT (simT_sizeOf t) fun n => ?_
  split
  · exact Sim.bindT Sim.stuck fun _ => simT_storeCells _ _ _
  · exact simT_storeCells _ _ _
theorem simT_newRow (t : TypeId) (cs : Array Value) : SimT V P (newRow t cs) := by
  unfold newRow
  exact Sim.bindT (SimT.newObj _ trivial) fun _ => Sim.pureT
theorem simT_newVar (t : TypeId) (v : Value) : SimT V P (newVar t v) := simT_newRow t _
theorem simT_part (t : TypeId) (cs : Array Value) (off : Nat) : SimT V P (part t cs off) := by
  unfold part
  refine Sim.bindT (simT_isAgg t) fun b => ?_
  split
  · exact Sim.bindT (simT_sizeOf t) fun n => Sim.pureT
  · split
    · exact Sim.pureT
    · exact Sim.stuck
theorem simT_elemOf (t : TypeId) : SimT V P (elemOf t) := by
  unfold elemOf
  refine Sim.bindT (simT_underlying t) fun d => ?_
  split
  · exact Sim.pureT
  · exact Sim.stuck
theorem simT_runtimePanic (e : RuntimeError) {Q : α → Prop} : Sim V P (runtimePanic e : Sem α) Q := by
  unfold runtimePanic
  refine Sim.bind (Q := fun _ => True) SimT.program fun p _ => ?_
  cases e with
  | typeAssertion i c a m => exact Sim.bind (Q := fun _ => True) (simT_elemOf _) fun _ _ => Sim.bind (Q := fun _ => True) (simT_newVar _ _) fun _ _ => Sim.goPanic
  | panicNil => exact Sim.bind (Q := fun _ => True) (simT_elemOf _) fun _ _ => Sim.bind (Q := fun _ => True) (simT_newVar _ _) fun _ _ => Sim.goPanic
  | _ => exact Sim.goPanic
theorem simT_boundsPanic (k : IntKind) (x y : Int) (c : BoundsCode) {Q : α → Prop} : Sim V P (boundsPanic k x y c : Sem α) Q := by
  unfold boundsPanic
  dsimp only
  split
  · exact Sim.bind (Q := fun _ => True) (SimT.map (Sim.choose _)) fun _ _ => simT_runtimePanic _
  · exact Sim.bind (Q := fun _ => True) Sim.pureT fun _ _ => simT_runtimePanic _
theorem simT_asIntOf (v : Value) : SimT V P (asIntOf v) := by
  unfold asIntOf
  split
  · exact Sim.pureT
  · exact SimT.unsup trivial
  · exact Sim.stuck
theorem simT_asInt (v : Value) : SimT V P (asInt v) := Sim.bindT (simT_asIntOf v) fun _ => Sim.pureT
theorem simT_asBool (v : Value) : SimT V P (asBool v) := by
  unfold asBool
  split
  · exact Sim.pureT
  · exact Sim.stuck
theorem simT_asString (v : Value) : SimT V P (asString v) := by
  unfold asString
  split
  · exact Sim.pureT
  · exact Sim.stuck
theorem simT_asAgg (v : Value) : SimT V P (asAgg v) := by
  unfold asAgg
  split
  · exact Sim.pureT
  · exact Sim.stuck
theorem simT_asAddr (v : Value) : SimT V P (asAddr v) := by
  unfold asAddr
  split
  · exact Sim.pureT
  · exact simT_runtimePanic _
  · exact Sim.stuck
theorem simT_sureAddr (v : Value) : SimT V P (Instr.sureAddr v) := by
  unfold Instr.sureAddr
  split
  · exact Sim.pureT
  · exact Sim.stuck
theorem simT_askRoom (n : Nat) : SimT V P (askRoom n) := by
  unfold askRoom
  split
  · exact Sim.mark _ (by simp) (by simp) (by simp)
  · exact Sim.pureT
end
end Go.Proofs.Ytnbaiinhalplcaa
