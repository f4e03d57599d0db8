/- Layer 10's acts on a graph, plainly; what thread, held, reference say of one that lies somewhere. Conditions: as each lemma states them. -/
import Derived.Test.YtmbhhadghiojeaaGrQ
import Derived.Test.YtmbhhadghiojeaaGrB
import Derived.Test.YtmbhhadghiojeaaGrB2
import Derived.Test.YtmbhhadghiojeaaGrC
import Derived.Test.YtmbhhadghiojeaaGrC2
import Derived.Test.YtmbhhadghiojeaaGrD
namespace Go.Proofs.Ytmbhhadghiojeaa
set_option linter.unusedVariables false
set_option linter.unusedSimpArgs false
open Go.RowKit

/-! ### plainly -/
def bT (s : Gs) (t : Int) : Bool := decide (t < 0) || decide ((s.nt : Int) ≤ t)
def bK (s : Gs) (t k : Int) : Bool := bT s t || badS (s.A t.toNat) k
def ofS (s : Gs) (t k : Int) : Int := (s.A t.toNat).getD k.toNat 0
def onR (s : Gs) (t k : Int) : List Int := s.R (ofS s t k).toNat
def onD (s : Gs) (t k : Int) : List Int := s.D (ofS s t k).toNat
def val (e v : Int) : Int := if e = 0 then v else 0
def sta (e : Int) (s' s : Gs) : Gs := if e = 0 then s' else s
def setS (s : Gs) (t d x : Int) : Gs := { s with A := up s.A t.toNat ((s.A t.toNat).set d.toNat x) }
def setR (s : Gs) (n : Nat) (i : Int) (x : Int) : Gs := { s with R := up s.R n ((s.R n).set i.toNat x) }
def setD (s : Gs) (n : Nat) (i : Int) (x : Int) : Gs := { s with D := up s.D n ((s.D n).set i.toNat x) }
def newO (s : Gs) (r z : Int) : Gs := { s with m := s.m + 1, R := up s.R (s.m + 1) (List.replicate r.toNat 0), D := up s.D (s.m + 1) (List.replicate (z - r).toNat 0) }
def allocE (s : Gs) (t d r z : Int) : Int := if bK s t d then 2 else if decide (r < 0) || decide (z < r) || decide (95 < z) then 2 else 0
def heldE (b : Bool) (n : Int) (xs : List Int) (i : Int) : Int := if b then 2 else if n = 0 then 5 else if badS xs i then 2 else 0
def loadE (s : Gs) (t d k i : Int) : Int := heldE (bK s t d || bK s t k) (ofS s t k) (onR s t k) i
def storeE (s : Gs) (t o i v : Int) : Int := heldE (bK s t o || bK s t v) (ofS s t o) (onR s t o) i
def readE (s : Gs) (t k i : Int) : Int := heldE (bK s t k) (ofS s t k) (onD s t k) i
def getE (s : Gs) (t d g : Int) : Int := if bK s t d || badS (s.R 0) g then 2 else 0
def moveE (s : Gs) (t d k : Int) : Int := if bK s t d || bK s t k then 2 else 0
def clearE (s : Gs) (t d : Int) : Int := if bK s t d then 2 else 0
def gpushE (s : Gs) (t k : Int) : Int := if bT s t then 2 else pushE (s.A t.toNat) (s.L t.toNat) k
def gpushS (s : Gs) (t k : Int) : Gs := if bT s t then s else { s with A := up s.A t.toNat (s.A t.toNat), L := up s.L t.toNat (pushL (s.A t.toNat) (s.L t.toNat) k) }
def gpopE (s : Gs) (t k : Int) : Int := if bT s t then 2 else popE (s.A t.toNat) (s.L t.toNat) k
def gpopS (s : Gs) (t k : Int) : Gs := if bT s t then s else { s with A := up s.A t.toNat (popA (s.A t.toNat) (s.L t.toNat) k), L := up s.L t.toNat (popL (s.A t.toNat) (s.L t.toNat) k) }

/-- All numbers of objects are 0, or of objects that were made; nothing is too great. -/
structure Wf (s : Gs) (M : Nat) : Prop where
  n1 : 1 ≤ s.nt
  n64 : s.nt ≤ 64
  m : s.m ≤ M
  g8 : (s.R 0).length ≤ 8
  r95 : ∀ n, 1 ≤ n → n ≤ s.m → (s.R n).length + (s.D n).length ≤ 95
  vA : ∀ t, t < s.nt → ∀ x ∈ s.A t, 0 ≤ x ∧ x ≤ s.m
  vL : ∀ t, t < s.nt → ∀ x ∈ s.L t, 0 ≤ x ∧ x ≤ s.m
  vR : ∀ n, n ≤ s.m → ∀ x ∈ s.R n, 0 ≤ x ∧ x ≤ s.m

theorem bT_no {s : Gs} {t : Int} (h : bT s t = false) : ∃ n : Nat, t = n ∧ n < s.nt := by
  simp [bT] at h
  exact ⟨t.toNat, by omega, by omega⟩
theorem bT_or {s : Gs} {t : Int} (h : bT s t = true) : t < 0 ∨ (s.nt : Int) ≤ t := by simpa [bT] using h
theorem bK_no {s : Gs} {t k : Int} (h : bK s t k = false) : ∃ tn kn : Nat, t = tn ∧ k = kn ∧ tn < s.nt ∧ kn < (s.A tn).length := by
  rw [bK, Bool.or_eq_false_iff] at h
  obtain ⟨tn, rfl, ht⟩ := bT_no h.1
  obtain ⟨kn, rfl, hk⟩ := badS_no h.2
  exact ⟨tn, kn, rfl, rfl, ht, hk⟩
theorem getD_mem {xs : List Int} {i : Nat} (h : i < xs.length) : xs.getD i 0 ∈ xs := by simp [List.getD, h]
theorem Wf.of {s : Gs} {M t k : Nat} (h : Wf s M) (ht : t < s.nt) (hk : k < (s.A t).length) : 0 ≤ (s.A t).getD k 0 ∧ (s.A t).getD k 0 ≤ s.m := h.vA t ht _ (getD_mem hk)

/-! ### where it lies -/
/-- Nothing older has turned, but in F. -/
structure Fr (F : Nat → Prop) (w w' : World) : Prop where
  os : w'.os = w.os
  tape : w'.tape = w.tape
  output : w'.output = w.output
  size : w.heap.size ≤ w'.heap.size
  block : ∀ k, k < w.heap.size → ¬ F k → w'.heap[k]? = w.heap[k]?
theorem Fr.of {S : List Nat} {F : Nat → Prop} {w w' : World} (k : Kp S w w') (h : ∀ x ∈ S, F x) : Fr F w w' := ⟨k.os, k.tape, k.output, k.size, fun j hj hn => k.block j hj (fun e => hn (h j e))⟩
/-- F, and what is new. -/
def nw (F : Nat → Prop) (w w' : World) : Nat → Prop := fun b => F b ∨ (w.heap.size ≤ b ∧ b < w'.heap.size)
/-- The graph s at p, in F. -/
def Gx (F : Nat → Prop) (w : World) (p : Nat) (s : Gs) : Prop := ∃ y, Gy w p s y ∧ ∀ b, Foot p s y b → F b
/-- How an act ends. -/
def Ended (F : Nat → Prop) (w : World) (p : Nat) (r : Value) (s' : Gs) (e : Ending) (w' : World) : Prop := e = .returned r ∧ Gx (nw F w w') w' p s' ∧ Fr F w w'

section
variable {F : Nat → Prop} {w w' : World} {p : Nat} {s s' : Gs} {y y' : Ly} {r : Value} {e : Ending}
theorem Gx.mono {F' : Nat → Prop} (h : Gx F w p s) (hF : ∀ b, F b → F' b) : Gx F' w p s := by
  obtain ⟨y, hy, hf⟩ := h
  exact ⟨y, hy, fun b hb => hF b (hf b hb)⟩
theorem Gx.on (h : Gx F w p s) (k : Kp [] w w') : Gx F w' p s := by
  obtain ⟨y, hy, hf⟩ := h
  exact ⟨y, hy.keep0 k, hf⟩
theorem ended_fail (hy : Gy w p s y) (hf : ∀ b, Foot p s y b → F b) (h : Fail w r e w') : Ended F w p r s e w' := ⟨h.1, ⟨y, hy.keep0 h.2, fun b hb => .inl (hf b hb)⟩, Fr.of h.2 (by simp)⟩
theorem ended_root (hy : Gy w p s y) (hf : ∀ b, Foot p s y b → F b) {t : Nat} (ht : t < s.nt) {A' L' : List Int} (hR : Rt w' (y.qs t) A' L') (k : Kp [y.qs t] w w') (he : e = .returned r) :
    Ended F w p r { s with A := up s.A t A', L := up s.L t L' } e w' :=
  ⟨he, ⟨y, hy.root ht hR k, fun b hb => .inl (hf b hb)⟩, Fr.of k fun x hx => hf x (by rw [List.mem_singleton] at hx; exact .inr (.inr (.inr (.inl ⟨t, ht, hx⟩))))⟩
end

theorem up_id {α : Type} (f : Nat → α) (k : Nat) : up f k (f k) = f := by
  funext j
  unfold up
  split
  · rename_i h; rw [h]
  · rfl

section
variable {w : World} {p : Nat} {s : Gs} {y : Ly} {M : Nat}
theorem th_nil (w : World) (t : Int) (xs : List Int) : ThNo w none t xs 1 := fun sv w1 _ _ => thread_nil w1 t sv
theorem th_bad (hy : Gy w p s y) {t : Int} (ht : bT s t = true) (xs : List Int) : ThNo w (some ⟨p, 0, none⟩) t xs 2 := fun sv w1 k _ => thread_bad w1 p _ _ _ t sv (hy.keep0 k).c0 (bT_or ht)
theorem th_is (hy : Gy w p s y) (hw : Wf s M) {t : Nat} (ht : t < s.nt) {xs : List Int} (hl : xs.length ≤ 64) (hx : ∀ x ∈ xs, badS (s.A t) x = false) : ThIs w p t xs (y.qs t) := fun sv w1 k hr =>
  thread_ok w1 p _ _ _ _ t _ _ xs sv (hy.keep0 k).c0 ht hw.n64 ((hy.keep0 k).ct ht) ((hy.keep0 k).hq t ht) hr hl fun x hin => by
    obtain ⟨j, rfl, hj⟩ := badS_no (hx x hin)
    omega
theorem th_slot (hy : Gy w p s y) (hw : Wf s M) {t : Nat} (ht : t < s.nt) {ys zs : List Int} {x : Int} (hl : (ys ++ x :: zs).length ≤ 64) (hx : ∀ x ∈ ys, badS (s.A t) x = false) (hb : badS (s.A t) x = true) : ThNo w (some ⟨p, 0, none⟩) t (ys ++ x :: zs) 2 := fun sv w1 k hr =>
  thread_no w1 p _ _ _ _ t _ _ ys zs x sv (hy.keep0 k).c0 ht hw.n64 ((hy.keep0 k).ct ht) ((hy.keep0 k).hq t ht) hr hl (fun x hin => by
    obtain ⟨j, rfl, hj⟩ := badS_no (hx x hin)
    omega) (badS_or hb)
theorem th_one (hy : Gy w p s y) (hw : Wf s M) {t d : Int} (h : bK s t d = true) : ThNo w (some ⟨p, 0, none⟩) t [d] 2 := by
  cases ht : bT s t
  · obtain ⟨tn, rfl, htn⟩ := bT_no ht
    exact th_slot (ys := []) (zs := []) hy hw htn (by simp) (by simp) (by simpa [bK, ht] using h)
  · exact th_bad hy ht _
theorem th_two (hy : Gy w p s y) (hw : Wf s M) {t d k : Int} (h : (bK s t d || bK s t k) = true) : ThNo w (some ⟨p, 0, none⟩) t [d, k] 2 := by
  cases ht : bT s t
  · obtain ⟨tn, rfl, htn⟩ := bT_no ht
    cases hd : badS (s.A tn) d
    · exact th_slot (ys := [d]) (zs := []) hy hw htn (by simp) (by simpa using hd) (by simpa [bK, ht, hd] using h)
    · exact th_slot (ys := []) (zs := [k]) hy hw htn (by simp) (by simp) hd
  · exact th_bad hy ht _
theorem he_is (hy : Gy w p s y) {t k n : Nat} (ht : t < s.nt) (hk : k < (s.A t).length) (hn : (s.A t).getD k 0 = n) (h1 : 1 ≤ n) (hm : n ≤ s.m) (hb : n ≤ 100000) :
    HeIs w p (y.qs t) k (.slice (some ⟨y.ig n, 0, none⟩) (s.R n).length (y.ic n)) (.slice (some ⟨y.dg n, 0, none⟩) (s.D n).length (y.dc n)) := fun w1 k1 =>
  held_ok w1 p (y.qs t) k y.B _ _ n _ _ _ _ _ _ ((hy.keep0 k1).hq t ht) hk hn (by simp; omega) (hy.keep0 k1).c2 fun w2 k2 => ((hy.keep0 k1).keep0 k2).hm.at h1 hm hb
theorem he_no (hy : Gy w p s y) {t k : Nat} (ht : t < s.nt) (hk : k < (s.A t).length) (hn : (s.A t).getD k 0 = 0) : HeNo w p (y.qs t) k 5 := fun w1 k1 =>
  held_none w1 (y.qs t) k _ _ _ ((hy.keep0 k1).hq t ht) hk hn
theorem re_is (hy : Gy w p s y) {t k : Nat} (ht : t < s.nt) (hk : k < (s.A t).length) : ReIs w (y.qs t) k ((s.A t).getD k 0) := fun w1 k1 => reference_ok w1 (y.qs t) _ _ ((hy.keep0 k1).hq t ht) k hk
theorem re_no (hy : Gy w p s y) {t : Nat} {k : Int} (ht : t < s.nt) (hk : badS (s.A t) k = true) : ReNo w (y.qs t) k 2 := fun w1 k1 => reference_no w1 (y.qs t) _ _ ((hy.keep0 k1).hq t ht) k (badS_or hk)
theorem on_set (hy : Gy w p s y) {t d : Nat} {x : Int} (ht : t < s.nt) (hd : d < (s.A t).length) (hx : 0 ≤ x) :
    OnIs w 37 (y.qs t) #[.int .i64 d, .int .i64 x] 0 fun w' => Rt w' (y.qs t) ((s.A t).set d x) (s.L t) := fun w1 k1 => set_ok w1 (y.qs t) _ _ ((hy.keep0 k1).hq t ht) d x hd hx
theorem qs_lt (hy : Gy w p s y) {t : Nat} (ht : t < s.nt) : y.qs t < w.heap.size := (hy.hq t ht).lt
end

end Go.Proofs.Ytmbhhadghiojeaa
