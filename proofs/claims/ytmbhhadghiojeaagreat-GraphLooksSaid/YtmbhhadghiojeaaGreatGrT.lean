/- Layer 10's acts on a graph, plainly; what thread, held, reference say of one that lies somewhere. Conditions: as each lemma states them. Layer 10's acts on a graph that lies somewhere: Load, Store, Read, Write. Layer 10's acts on a graph that lies somewhere: Read, Write, Get, Put. Layer 10's acts on a graph that lies somewhere: Move, Clear, Push, Pop, Slot, Alloc, New. Layer 10's acts on a graph that lies somewhere: New. Conditions: as each theorem states them. -/
import Derived.Test.YtmbhhadghiojeaaGreatGrQ
import Derived.Test.YtmbhhadghiojeaaGreatGrB
import Derived.Test.YtmbhhadghiojeaaGreatGrC
import Derived.Test.YtmbhhadghiojeaaGreatGrD
namespace Go.Proofs.YtmbhhadghiojeaaGreat
set_option linter.unusedVariables false
set_option linter.unusedSimpArgs false
open Go.RowKit

/-! ### plainly -/
def bT (s : Gs) (t : Int) : Bool := decide (t < 0) || decide ((s.nt : Int) ≤ t)
def bK (s : Gs) (t k : Int) : Bool := bT s t || badS (s.A t.toNat) k
def ofS (s : Gs) (t k : Int) : Int := (s.A t.toNat).getD k.toNat 0
def onR (s : Gs) (t k : Int) : List Int := s.R (ofS s t k).toNat
def onD (s : Gs) (t k : Int) : List Int := s.D (ofS s t k).toNat
def val (e v : Int) : Int := if e = 0 then v else 0
def sta (e : Int) (s' s : Gs) : Gs := if e = 0 then s' else s
def setS (s : Gs) (t d x : Int) : Gs := { s with A := up s.A t.toNat ((s.A t.toNat).set d.toNat x) }
def setR (s : Gs) (n : Nat) (i : Int) (x : Int) : Gs := { s with R := up s.R n ((s.R n).set i.toNat x) }
def setD (s : Gs) (n : Nat) (i : Int) (x : Int) : Gs := { s with D := up s.D n ((s.D n).set i.toNat x) }
def newO (s : Gs) (r z : Int) : Gs := { s with m := s.m + 1, R := up s.R (s.m + 1) (List.replicate r.toNat 0), D := up s.D (s.m + 1) (List.replicate (z - r).toNat 0) }
def allocE (s : Gs) (t d r z : Int) : Int := if bK s t d then 2 else if decide (r < 0) || decide (z < r) || decide (95 < z) then 2 else 0
def heldE (b : Bool) (n : Int) (xs : List Int) (i : Int) : Int := if b then 2 else if n = 0 then 5 else if badS xs i then 2 else 0
def loadE (s : Gs) (t d k i : Int) : Int := heldE (bK s t d || bK s t k) (ofS s t k) (onR s t k) i
def storeE (s : Gs) (t o i v : Int) : Int := heldE (bK s t o || bK s t v) (ofS s t o) (onR s t o) i
def readE (s : Gs) (t k i : Int) : Int := heldE (bK s t k) (ofS s t k) (onD s t k) i
def getE (s : Gs) (t d g : Int) : Int := if bK s t d || badS (s.R 0) g then 2 else 0
def moveE (s : Gs) (t d k : Int) : Int := if bK s t d || bK s t k then 2 else 0
def clearE (s : Gs) (t d : Int) : Int := if bK s t d then 2 else 0
def gpushE (s : Gs) (t k : Int) : Int := if bT s t then 2 else pushE (s.A t.toNat) (s.L t.toNat) k
def gpushS (s : Gs) (t k : Int) : Gs := if bT s t then s else { s with A := up s.A t.toNat (s.A t.toNat), L := up s.L t.toNat (pushL (s.A t.toNat) (s.L t.toNat) k) }
def gpopE (s : Gs) (t k : Int) : Int := if bT s t then 2 else popE (s.A t.toNat) (s.L t.toNat) k
def gpopS (s : Gs) (t k : Int) : Gs := if bT s t then s else { s with A := up s.A t.toNat (popA (s.A t.toNat) (s.L t.toNat) k), L := up s.L t.toNat (popL (s.A t.toNat) (s.L t.toNat) k) }

/-- All numbers of objects are 0, or of objects that were made; nothing is too great. -/
structure Wf (s : Gs) (M : Nat) : Prop where
  n1 : 1 ≤ s.nt
  n64 : s.nt ≤ 64
  m : s.m ≤ M
  g8 : (s.R 0).length ≤ 8
  r95 : ∀ n, 1 ≤ n → n ≤ s.m → (s.R n).length + (s.D n).length ≤ 95
  vA : ∀ t, t < s.nt → ∀ x ∈ s.A t, 0 ≤ x ∧ x ≤ s.m
  vL : ∀ t, t < s.nt → ∀ x ∈ s.L t, 0 ≤ x ∧ x ≤ s.m
  vR : ∀ n, n ≤ s.m → ∀ x ∈ s.R n, 0 ≤ x ∧ x ≤ s.m

theorem bT_no {s : Gs} {t : Int} (h : bT s t = false) : ∃ n : Nat, t = n ∧ n < s.nt := by
  simp [bT] at h
  exact ⟨t.toNat, by omega, by omega⟩
theorem bT_or {s : Gs} {t : Int} (h : bT s t = true) : t < 0 ∨ (s.nt : Int) ≤ t := by simpa [bT] using h
theorem bK_no {s : Gs} {t k : Int} (h : bK s t k = false) : ∃ tn kn : Nat, t = tn ∧ k = kn ∧ tn < s.nt ∧ kn < (s.A tn).length := by
  rw [bK, Bool.or_eq_false_iff] at h
  obtain ⟨tn, rfl, ht⟩ := bT_no h.1
  obtain ⟨kn, rfl, hk⟩ := badS_no h.2
  exact ⟨tn, kn, rfl, rfl, ht, hk⟩
theorem getD_mem {xs : List Int} {i : Nat} (h : i < xs.length) : xs.getD i 0 ∈ xs := by simp [List.getD, h]
theorem Wf.of {s : Gs} {M t k : Nat} (h : Wf s M) (ht : t < s.nt) (hk : k < (s.A t).length) : 0 ≤ (s.A t).getD k 0 ∧ (s.A t).getD k 0 ≤ s.m := h.vA t ht _ (getD_mem hk)

/-! ### where it lies -/
/-- Nothing older has turned, but in F. -/
structure Fr (F : Nat → Prop) (w w' : World) : Prop where
  os : w'.os = w.os
  tape : w'.tape = w.tape
  output : w'.output = w.output
  size : w.heap.size ≤ w'.heap.size
  block : ∀ k, k < w.heap.size → ¬ F k → w'.heap[k]? = w.heap[k]?
theorem Fr.of {S : List Nat} {F : Nat → Prop} {w w' : World} (k : Kp S w w') (h : ∀ x ∈ S, F x) : Fr F w w' := ⟨k.os, k.tape, k.output, k.size, fun j hj hn => k.block j hj (fun e => hn (h j e))⟩
/-- F, and what is new. -/
def nw (F : Nat → Prop) (w w' : World) : Nat → Prop := fun b => F b ∨ (w.heap.size ≤ b ∧ b < w'.heap.size)
/-- The graph s at p, in F. -/
def Gx (F : Nat → Prop) (w : World) (p : Nat) (s : Gs) : Prop := ∃ y, Gy w p s y ∧ ∀ b, Foot p s y b → F b
/-- How an act ends. -/
def Ended (F : Nat → Prop) (w : World) (p : Nat) (r : Value) (s' : Gs) (e : Ending) (w' : World) : Prop := e = .returned r ∧ Gx (nw F w w') w' p s' ∧ Fr F w w'

section
variable {F : Nat → Prop} {w w' : World} {p : Nat} {s s' : Gs} {y y' : Ly} {r : Value} {e : Ending}
theorem Gx.mono {F' : Nat → Prop} (h : Gx F w p s) (hF : ∀ b, F b → F' b) : Gx F' w p s := by
  obtain ⟨y, hy, hf⟩ := h
  exact ⟨y, hy, fun b hb => hF b (hf b hb)⟩
theorem Gx.on (h : Gx F w p s) (k : Kp [] w w') : Gx F w' p s := by
  obtain ⟨y, hy, hf⟩ := h
  exact ⟨y, hy.keep0 k, hf⟩
theorem ended_fail (hy : Gy w p s y) (hf : ∀ b, Foot p s y b → F b) (h : Fail w r e w') : Ended F w p r s e w' := ⟨h.1, ⟨y, hy.keep0 h.2, fun b hb => .inl (hf b hb)⟩, Fr.of h.2 (by simp)⟩
theorem ended_root (hy : Gy w p s y) (hf : ∀ b, Foot p s y b → F b) {t : Nat} (ht : t < s.nt) {A' L' : List Int} (hR : Rt w' (y.qs t) A' L') (k : Kp [y.qs t] w w') (he : e = .returned r) :
    Ended F w p r { s with A := up s.A t A', L := up s.L t L' } e w' :=
  ⟨he, ⟨y, hy.root ht hR k, fun b hb => .inl (hf b hb)⟩, Fr.of k fun x hx => hf x (by rw [List.mem_singleton] at hx; exact .inr (.inr (.inr (.inl ⟨t, ht, hx⟩))))⟩
end

theorem up_id {α : Type} (f : Nat → α) (k : Nat) : up f k (f k) = f := by
  funext j
  unfold up
  split
  · rename_i h; rw [h]
  · rfl

section
variable {w : World} {p : Nat} {s : Gs} {y : Ly} {M : Nat}
theorem th_nil (w : World) (t : Int) (xs : List Int) : ThNo w none t xs 1 := fun sv w1 _ _ => thread_nil w1 t sv
theorem th_bad (hy : Gy w p s y) {t : Int} (ht : bT s t = true) (xs : List Int) : ThNo w (some ⟨p, 0, none⟩) t xs 2 := fun sv w1 k _ => thread_bad w1 p _ _ _ t sv (hy.keep0 k).c0 (bT_or ht)
theorem th_is (hy : Gy w p s y) (hw : Wf s M) {t : Nat} (ht : t < s.nt) {xs : List Int} (hl : xs.length ≤ 64) (hx : ∀ x ∈ xs, badS (s.A t) x = false) : ThIs w p t xs (y.qs t) := fun sv w1 k hr =>
  thread_ok w1 p _ _ _ _ t _ _ xs sv (hy.keep0 k).c0 ht hw.n64 ((hy.keep0 k).ct ht) ((hy.keep0 k).hq t ht) hr hl fun x hin => by
    obtain ⟨j, rfl, hj⟩ := badS_no (hx x hin)
    omega
theorem th_slot (hy : Gy w p s y) (hw : Wf s M) {t : Nat} (ht : t < s.nt) {ys zs : List Int} {x : Int} (hl : (ys ++ x :: zs).length ≤ 64) (hx : ∀ x ∈ ys, badS (s.A t) x = false) (hb : badS (s.A t) x = true) : ThNo w (some ⟨p, 0, none⟩) t (ys ++ x :: zs) 2 := fun sv w1 k hr =>
  thread_no w1 p _ _ _ _ t _ _ ys zs x sv (hy.keep0 k).c0 ht hw.n64 ((hy.keep0 k).ct ht) ((hy.keep0 k).hq t ht) hr hl (fun x hin => by
    obtain ⟨j, rfl, hj⟩ := badS_no (hx x hin)
    omega) (badS_or hb)
theorem th_one (hy : Gy w p s y) (hw : Wf s M) {t d : Int} (h : bK s t d = true) : ThNo w (some ⟨p, 0, none⟩) t [d] 2 := by
  cases ht : bT s t
  · obtain ⟨tn, rfl, htn⟩ := bT_no ht
    exact th_slot (ys := []) (zs := []) hy hw htn (by simp) (by simp) (by simpa [bK, ht] using h)
  · exact th_bad hy ht _
theorem th_two (hy : Gy w p s y) (hw : Wf s M) {t d k : Int} (h : (bK s t d || bK s t k) = true) : ThNo w (some ⟨p, 0, none⟩) t [d, k] 2 := by
  cases ht : bT s t
  · obtain ⟨tn, rfl, htn⟩ := bT_no ht
    cases hd : badS (s.A tn) d
    · exact th_slot (ys := [d]) (zs := []) hy hw htn (by simp) (by simpa using hd) (by simpa [bK, ht, hd] using h)
    · exact th_slot (ys := []) (zs := [k]) hy hw htn (by simp) (by simp) hd
  · exact th_bad hy ht _
theorem he_is (hy : Gy w p s y) {t k n : Nat} (ht : t < s.nt) (hk : k < (s.A t).length) (hn : (s.A t).getD k 0 = n) (h1 : 1 ≤ n) (hm : n ≤ s.m) (hb : n ≤ 100000) :
    HeIs w p (y.qs t) k (.slice (some ⟨y.ig n, 0, none⟩) (s.R n).length (y.ic n)) (.slice (some ⟨y.dg n, 0, none⟩) (s.D n).length (y.dc n)) := fun w1 k1 =>
  held_ok w1 p (y.qs t) k y.B _ _ n _ _ _ _ _ _ ((hy.keep0 k1).hq t ht) hk hn (by simp; omega) (hy.keep0 k1).c2 fun w2 k2 => ((hy.keep0 k1).keep0 k2).hm.at h1 hm hb
theorem he_no (hy : Gy w p s y) {t k : Nat} (ht : t < s.nt) (hk : k < (s.A t).length) (hn : (s.A t).getD k 0 = 0) : HeNo w p (y.qs t) k 5 := fun w1 k1 =>
  held_none w1 (y.qs t) k _ _ _ ((hy.keep0 k1).hq t ht) hk hn
theorem re_is (hy : Gy w p s y) {t k : Nat} (ht : t < s.nt) (hk : k < (s.A t).length) : ReIs w (y.qs t) k ((s.A t).getD k 0) := fun w1 k1 => reference_ok w1 (y.qs t) _ _ ((hy.keep0 k1).hq t ht) k hk
theorem re_no (hy : Gy w p s y) {t : Nat} {k : Int} (ht : t < s.nt) (hk : badS (s.A t) k = true) : ReNo w (y.qs t) k 2 := fun w1 k1 => reference_no w1 (y.qs t) _ _ ((hy.keep0 k1).hq t ht) k (badS_or hk)
theorem on_set (hy : Gy w p s y) {t d : Nat} {x : Int} (ht : t < s.nt) (hd : d < (s.A t).length) (hx : 0 ≤ x) :
    OnIs w 58 (y.qs t) #[.int .i64 d, .int .i64 x] 0 fun w' => Rt w' (y.qs t) ((s.A t).set d x) (s.L t) := fun w1 k1 => set_ok w1 (y.qs t) _ _ ((hy.keep0 k1).hq t ht) d x hd hx
theorem qs_lt (hy : Gy w p s y) {t : Nat} (ht : t < s.nt) : y.qs t < w.heap.size := (hy.hq t ht).lt
end

end Go.Proofs.YtmbhhadghiojeaaGreat

namespace Go.Proofs.YtmbhhadghiojeaaGreat
set_option linter.unusedVariables false
set_option linter.unusedSimpArgs false
open Go.RowKit

theorem heldE_b {b : Bool} {n i : Int} {xs : List Int} (h : b = true) : heldE b n xs i = 2 := by simp [heldE, h]
theorem heldE_0 {b : Bool} {n i : Int} {xs : List Int} (h : b = false) (hn : n = 0) : heldE b n xs i = 5 := by simp [heldE, h, hn]
theorem heldE_i {b : Bool} {n i : Int} {xs : List Int} (h : b = false) (hn : n ≠ 0) (hi : badS xs i = true) : heldE b n xs i = 2 := by simp [heldE, h, hn, hi]
theorem heldE_ok {b : Bool} {n i : Int} {xs : List Int} (h : b = false) (hn : n ≠ 0) (hi : badS xs i = false) : heldE b n xs i = 0 := by simp [heldE, h, hn, hi]
theorem kp_root {S T : List Nat} {w W w2 w' : World} (h : Kp [] w W) (h2 : Kp T W w2) (k : Kp S w2 w') (hS : ∀ x ∈ S, w.heap.size ≤ x) : Kp T w w' :=
  (((kp_then h h2).mono (T := T ++ S) fun x hx _ => List.mem_append_left _ hx).trans (k.mono fun x hx _ => List.mem_append_right _ hx)).mono fun x hx hlt => by
    rw [List.mem_append] at hx
    rcases hx with hx | hx
    · exact hx
    · have := hS x hx; omega

theorem g_Load {F : Nat → Prop} {w : World} {p : Nat} {s : Gs} {M : Nat} (hx : Gx F w p s) (hw : Wf s M) (hM : M ≤ 10000) (t d k i : Int) :
    Calls Tryz.prog 18 #[.pointer (some ⟨p, 0, none⟩), .int .i64 t, .int .i64 d, .int .i64 k, .int .i64 i] w (Ended F w p (.tuple #[.int .i64 (val (loadE s t d k i) ((onR s t k).getD i.toNat 0)), .int .i64 (loadE s t d k i)]) (sta (loadE s t d k i) (setS s t d ((onR s t k).getD i.toNat 0)) s)) := by
  obtain ⟨y, hy, hf⟩ := hx
  have err : ∀ x : Int, x ≠ 0 → loadE s t d k i = x → Calls Tryz.prog 18 #[.pointer (some ⟨p, 0, none⟩), .int .i64 t, .int .i64 d, .int .i64 k, .int .i64 i] w (Fail w (.tuple #[.int .i64 0, .int .i64 x])) → Calls Tryz.prog 18 #[.pointer (some ⟨p, 0, none⟩), .int .i64 t, .int .i64 d, .int .i64 k, .int .i64 i] w (Ended F w p (.tuple #[.int .i64 (val (loadE s t d k i) ((onR s t k).getD i.toNat 0)), .int .i64 (loadE s t d k i)]) (sta (loadE s t d k i) (setS s t d ((onR s t k).getD i.toNat 0)) s)) := fun x hx0 hE hc => by
    rw [hE]
    rw [show val x _ = 0 from if_neg hx0]
    rw [show sta x _ s = s from if_neg hx0]
    exact hc.mono fun _ _ h => ended_fail hy hf h
  cases hb : (bK s t d || bK s t k)
  · have hb2 := hb
    rw [Bool.or_eq_false_iff] at hb2
    obtain ⟨tn, dn, rfl, rfl, ht, hd⟩ := bK_no hb2.1
    obtain ⟨tn', kn, e1, rfl, _, hk⟩ := bK_no hb2.2
    obtain rfl : tn = tn' := by omega
    have bd : badS (s.A tn) (dn : Int) = false := by simpa [badS] using hd
    have bk : badS (s.A tn) (kn : Int) = false := by simpa [badS] using hk
    have hv := hw.of ht hk
    by_cases h0 : (s.A tn).getD kn 0 = 0
    · refine err 5 (by decide) (heldE_0 hb h0) ?_
      have B := bx_Load w (some ⟨p, 0, none⟩) (tn) (dn) (kn) (i)
      exact no_Load w (some ⟨p, 0, none⟩) (tn) (dn) (kn) (i) 5 (ac_load_he _ (w.heap.size) (w.heap.size + 1) (w.heap.size + 1 + 1) (w.heap.size + 1 + 1 + 1) (w.heap.size + 1 + 1 + 1 + 1) (w.heap.size + 1 + 1 + 1 + 1 + 1) p (y.qs tn) tn dn kn i 5 (cell_of_row B.1 0) (cell_of_row B.2.1 0) (cell_of_row B.2.2.1 0) (cell_of_row B.2.2.2.1 0) (cell_of_row B.2.2.2.2.1 0) ((th_is hy hw ht (xs := [(dn : Int), (kn : Int)]) (by simp) (by simp [bd, bk])).on B.2.2.2.2.2.2.2) ((he_no hy ht hk h0).on B.2.2.2.2.2.2.2))
    · obtain ⟨m, hm⟩ : ∃ m : Nat, (s.A tn).getD kn 0 = m := ⟨((s.A tn).getD kn 0).toNat, by omega⟩
      have hm1 : 1 ≤ m := by omega
      have hms : m ≤ s.m := by omega
      have hMm := hw.m
      have h95 := hw.r95 m hm1 hms
      have hhe := he_is hy ht hk hm hm1 hms (by omega)
      have hon : onR s tn kn = s.R m := by show s.R ((s.A tn).getD kn 0).toNat = s.R m; rw [hm]; rfl
      cases hi : badS (s.R m) i
      · obtain ⟨j, rfl, hj⟩ := badS_no hi
        have hE : loadE s tn dn kn j = 0 := heldE_ok hb (show ofS s tn kn ≠ 0 from h0) ((congrArg (fun l => badS l _) hon).trans hi)
        rw [hE, show val 0 _ = _ from if_pos rfl, show sta 0 _ s = _ from if_pos rfl, hon]
        rw [show ((j : Int)).toNat = j from rfl]
        have B := bx_Load w (some ⟨p, 0, none⟩) (tn) (dn) (kn) (j)
        have hql := qs_lt hy ht
        have hrow := (hy.hi m hms)
        have hx0 := (hw.vR m hms _ (getD_mem hj)).1
        have hc := ac_load_ok _ (w.heap.size) (w.heap.size + 1) (w.heap.size + 1 + 1) (w.heap.size + 1 + 1 + 1) (w.heap.size + 1 + 1 + 1 + 1) (w.heap.size + 1 + 1 + 1 + 1 + 1) p (y.qs tn) j tn dn kn ((s.R m).getD j 0) (cell_of_row B.1 0) (cell_of_row B.2.1 0) (cell_of_row B.2.2.1 0) (cell_of_row B.2.2.2.1 0) (cell_of_row B.2.2.2.2.1 0) ((th_is hy hw ht (xs := [(dn : Int), (kn : Int)]) (by simp) (by simp [bd, bk])).on B.2.2.2.2.2.2.2) _ _ _ _ _ _ (hhe.on B.2.2.2.2.2.2.2) ⟨hj, by omega⟩ ((hrow.keep0 B.2.2.2.2.2.2.2).cell hj) _ ((on_set hy ht hd hx0).on B.2.2.2.2.2.2.2) 0 B.2.2.2.2.2.1 (by omega)
        refine (ok_Load w (some ⟨p, 0, none⟩) (tn) (dn) (kn) (j) (fun w3 => ∃ w2, Rt w2 (y.qs tn) ((s.A tn).set dn ((s.R m).getD j 0)) (s.L tn) ∧ Kp [y.qs tn] _ w2 ∧ w3 = w2.setCell _ _) ((s.R m).getD j 0) hc ?_ ?_).mono ?_
        · rintro w3 ⟨w2, hR, hk2, rfl⟩
          exact ((Kp.refl [w.heap.size + 1 + 1 + 1 + 1 + 1] w2).setCell (.inl (by simp)) _).row (by simp) (hk2.row (by simp; omega) B.2.2.2.2.2.2.1)
        · rintro w3 ⟨w2, hR, hk2, rfl⟩
          rw [heap_setCell_same _ _ _ _ _ _ (hk2.row (by simp; omega) B.2.2.2.2.2.1)]; rfl
        · rintro e w' ⟨rfl, w3, ⟨w2, hR, hk2, rfl⟩, hk4⟩
          have hk3 : Kp [w.heap.size + 1 + 1 + 1 + 1 + 1, w.heap.size + 1 + 1 + 1 + 1 + 1 + 1] w2 w' := (((Kp.refl [w.heap.size + 1 + 1 + 1 + 1 + 1] w2).setCell (.inl (by simp)) _).mono (by simp)).trans hk4
          have := ended_root (r := .tuple #[.int .i64 ((s.R m).getD j 0), .int .i64 0]) hy hf ht (hR.keep hk3 (by simp; omega)) (kp_root B.2.2.2.2.2.2.2 hk2 hk3 (by simp; omega)) rfl
          rw [up_id] at this
          simpa [setS] using this
      · refine err 2 (by decide) (heldE_i hb (show ofS s tn kn ≠ 0 from h0) ((congrArg (fun l => badS l i) hon).trans hi)) ?_
        have B := bx_Load w (some ⟨p, 0, none⟩) (tn) (dn) (kn) (i)
        exact no_Load w (some ⟨p, 0, none⟩) (tn) (dn) (kn) (i) 2 (ac_load_it _ (w.heap.size) (w.heap.size + 1) (w.heap.size + 1 + 1) (w.heap.size + 1 + 1 + 1) (w.heap.size + 1 + 1 + 1 + 1) (w.heap.size + 1 + 1 + 1 + 1 + 1) p (y.qs tn) tn dn kn i (cell_of_row B.1 0) (cell_of_row B.2.1 0) (cell_of_row B.2.2.1 0) (cell_of_row B.2.2.2.1 0) (cell_of_row B.2.2.2.2.1 0) ((th_is hy hw ht (xs := [(dn : Int), (kn : Int)]) (by simp) (by simp [bd, bk])).on B.2.2.2.2.2.2.2) _ _ _ _ _ _ (hhe.on B.2.2.2.2.2.2.2) (badS_or hi))
  · refine err 2 (by decide) (heldE_b hb) ?_
    exact th_Load w (some ⟨p, 0, none⟩) t d k i 2 (th_two hy hw hb)


theorem g_Store {F : Nat → Prop} {w : World} {p : Nat} {s : Gs} {M : Nat} (hx : Gx F w p s) (hw : Wf s M) (hM : M ≤ 10000) (t d i k : Int) :
    Calls Tryz.prog 16 #[.pointer (some ⟨p, 0, none⟩), .int .i64 t, .int .i64 d, .int .i64 i, .int .i64 k] w (Ended F w p (.int .i64 (storeE s t d i k)) (sta (storeE s t d i k) (setR s (ofS s t d).toNat i (ofS s t k)) s)) := by
  obtain ⟨y, hy, hf⟩ := hx
  have err : ∀ x : Int, x ≠ 0 → storeE s t d i k = x → Calls Tryz.prog 16 #[.pointer (some ⟨p, 0, none⟩), .int .i64 t, .int .i64 d, .int .i64 i, .int .i64 k] w (Fail w (.int .i64 x)) → Calls Tryz.prog 16 #[.pointer (some ⟨p, 0, none⟩), .int .i64 t, .int .i64 d, .int .i64 i, .int .i64 k] w (Ended F w p (.int .i64 (storeE s t d i k)) (sta (storeE s t d i k) (setR s (ofS s t d).toNat i (ofS s t k)) s)) := fun x hx0 hE hc => by
    rw [hE]
    rw [show sta x _ s = s from if_neg hx0]
    exact hc.mono fun _ _ h => ended_fail hy hf h
  cases hb : (bK s t d || bK s t k)
  · have hb2 := hb
    rw [Bool.or_eq_false_iff] at hb2
    obtain ⟨tn, dn, rfl, rfl, ht, hd⟩ := bK_no hb2.1
    obtain ⟨tn', kn, e1, rfl, _, hk⟩ := bK_no hb2.2
    obtain rfl : tn = tn' := by omega
    have bd : badS (s.A tn) (dn : Int) = false := by simpa [badS] using hd
    have bk : badS (s.A tn) (kn : Int) = false := by simpa [badS] using hk
    have hv := hw.of ht hd
    by_cases h0 : (s.A tn).getD dn 0 = 0
    · refine err 5 (by decide) (heldE_0 hb h0) ?_
      have B := bx_Store w (some ⟨p, 0, none⟩) (tn) (dn) (i) (kn)
      exact no_Store w (some ⟨p, 0, none⟩) (tn) (dn) (i) (kn) 5 [] (ac_store_he _ (w.heap.size) (w.heap.size + 1) (w.heap.size + 1 + 1) (w.heap.size + 1 + 1 + 1 + 1) (w.heap.size + 1 + 1 + 1) p (y.qs tn) tn dn kn i 5 (cell_of_row B.1 0) (cell_of_row B.2.1 0) (cell_of_row B.2.2.1 0) (cell_of_row B.2.2.2.2.1 0) (cell_of_row B.2.2.2.1 0) ((th_is hy hw ht (xs := [(dn : Int), (kn : Int)]) (by simp) (by simp [bd, bk])).on B.2.2.2.2.2.2) ((he_no hy ht hd h0).on B.2.2.2.2.2.2)) (by simp)
    · obtain ⟨m, hm⟩ : ∃ m : Nat, (s.A tn).getD dn 0 = m := ⟨((s.A tn).getD dn 0).toNat, by omega⟩
      have hm1 : 1 ≤ m := by omega
      have hms : m ≤ s.m := by omega
      have hMm := hw.m
      have h95 := hw.r95 m hm1 hms
      have hhe := he_is hy ht hd hm hm1 hms (by omega)
      have hon : onR s tn dn = s.R m := by show s.R ((s.A tn).getD dn 0).toNat = s.R m; rw [hm]; rfl
      cases hi : badS (s.R m) i
      · obtain ⟨j, rfl, hj⟩ := badS_no hi
        have hE : storeE s tn dn j kn = 0 := heldE_ok hb (show ofS s tn dn ≠ 0 from h0) ((congrArg (fun l => badS l _) hon).trans hi)
        rw [hE, show sta 0 _ s = _ from if_pos rfl, show (ofS s tn dn).toNat = m from by show ((s.A tn).getD dn 0).toNat = m; rw [hm]; rfl]
        have B := bx_Store w (some ⟨p, 0, none⟩) (tn) (dn) (j) (kn)
        have hrow := hy.hi m hms
        obtain ⟨cur, hcur, hcu⟩ := hrow
        have hrow := hy.hi m hms
        have hgl := hrow.lt
        have hc := ac_store_ok _ (w.heap.size) (w.heap.size + 1) (w.heap.size + 1 + 1) (w.heap.size + 1 + 1 + 1 + 1) (w.heap.size + 1 + 1 + 1) p (y.qs tn) j tn dn kn ((s.A tn).getD kn 0) (cell_of_row B.1 0) (cell_of_row B.2.1 0) (cell_of_row B.2.2.1 0) (cell_of_row B.2.2.2.2.1 0) (cell_of_row B.2.2.2.1 0) ((th_is hy hw ht (xs := [(dn : Int), (kn : Int)]) (by simp) (by simp [bd, bk])).on B.2.2.2.2.2.2) _ _ _ _ _ _ (hhe.on B.2.2.2.2.2.2) ⟨hj, by omega⟩ ((re_is hy ht hk).on B.2.2.2.2.2.2) cur _ ⟨B.2.2.2.2.2.2.row (by simp) hcur, hcu j hj, by omega, by omega, by omega, by omega⟩
        refine (ok_Store w (some ⟨p, 0, none⟩) (tn) (dn) (j) (kn) (fun w3 => ∃ w2, True ∧ Kp [] _ w2 ∧ w3 = w2.setCell _ _) hc ?_).mono ?_
        · rintro w3 ⟨w2, _, hk2, rfl⟩
          exact ((Kp.refl [y.ig m] w2).setCell (.inl (by simp)) _).row (by simp; omega) (hk2.row (by simp) B.2.2.2.2.2.1)
        · rintro e w' ⟨rfl, w3, ⟨w2, _, hk2, rfl⟩, hk4⟩
          have hrow2 := ((hrow.keep0 (B.2.2.2.2.2.2.trans hk2)).set hj ((s.A tn).getD kn 0)).keep hk4 (by simp; omega)
          have hkk : Kp [y.ig m] w w' := kp_root (B.2.2.2.2.2.2.trans hk2) ((Kp.refl [y.ig m] w2).setCell (.inl (by simp)) _) hk4 (by simp <;> omega)
          exact ⟨rfl, ⟨y, hy.refs hms hj _ hrow2 hkk, fun b hb => .inl (hf b hb)⟩, Fr.of hkk fun b hb => hf b (by rw [List.mem_singleton] at hb; exact .inr (.inr (.inr (.inr (.inl ⟨_, ‹_ ≤ s.m›, hb⟩)))))⟩
      · refine err 2 (by decide) (heldE_i hb (show ofS s tn dn ≠ 0 from h0) ((congrArg (fun l => badS l i) hon).trans hi)) ?_
        have B := bx_Store w (some ⟨p, 0, none⟩) (tn) (dn) (i) (kn)
        exact no_Store w (some ⟨p, 0, none⟩) (tn) (dn) (i) (kn) 2 [] (ac_store_it _ (w.heap.size) (w.heap.size + 1) (w.heap.size + 1 + 1) (w.heap.size + 1 + 1 + 1 + 1) (w.heap.size + 1 + 1 + 1) p (y.qs tn) tn dn kn i (cell_of_row B.1 0) (cell_of_row B.2.1 0) (cell_of_row B.2.2.1 0) (cell_of_row B.2.2.2.2.1 0) (cell_of_row B.2.2.2.1 0) ((th_is hy hw ht (xs := [(dn : Int), (kn : Int)]) (by simp) (by simp [bd, bk])).on B.2.2.2.2.2.2) _ _ _ _ _ _ (hhe.on B.2.2.2.2.2.2) (badS_or hi)) (by simp)
  · refine err 2 (by decide) (heldE_b hb) ?_
    exact th_Store w (some ⟨p, 0, none⟩) t d i k 2 (th_two hy hw hb)


end Go.Proofs.YtmbhhadghiojeaaGreat

namespace Go.Proofs.YtmbhhadghiojeaaGreat
set_option linter.unusedVariables false
set_option linter.unusedSimpArgs false
open Go.RowKit

theorem g_Read {F : Nat → Prop} {w : World} {p : Nat} {s : Gs} {M : Nat} (hx : Gx F w p s) (hw : Wf s M) (hM : M ≤ 10000) (t k i : Int) :
    Calls Tryz.prog 25 #[.pointer (some ⟨p, 0, none⟩), .int .i64 t, .int .i64 k, .int .i64 i] w (Ended F w p (.tuple #[.int .u64 (val (readE s t k i) ((onD s t k).getD i.toNat 0)), .int .i64 (readE s t k i)]) (s)) := by
  obtain ⟨y, hy, hf⟩ := hx
  have err : ∀ x : Int, x ≠ 0 → readE s t k i = x → Calls Tryz.prog 25 #[.pointer (some ⟨p, 0, none⟩), .int .i64 t, .int .i64 k, .int .i64 i] w (Fail w (.tuple #[.int .u64 0, .int .i64 x])) → Calls Tryz.prog 25 #[.pointer (some ⟨p, 0, none⟩), .int .i64 t, .int .i64 k, .int .i64 i] w (Ended F w p (.tuple #[.int .u64 (val (readE s t k i) ((onD s t k).getD i.toNat 0)), .int .i64 (readE s t k i)]) (s)) := fun x hx0 hE hc => by
    rw [hE]
    rw [show val x _ = 0 from if_neg hx0]
    exact hc.mono fun _ _ h => ended_fail hy hf h
  cases hb : bK s t k
  · obtain ⟨tn, kn, rfl, rfl, ht, hk⟩ := bK_no hb
    have bk : badS (s.A tn) (kn : Int) = false := by simpa [badS] using hk
    have hv := hw.of ht hk
    by_cases h0 : (s.A tn).getD kn 0 = 0
    · refine err 5 (by decide) (heldE_0 hb h0) ?_
      have B := bx_Read w (some ⟨p, 0, none⟩) (tn) (kn) (i)
      exact no_Read w (some ⟨p, 0, none⟩) (tn) (kn) (i) 5 (ac_read_he _ (w.heap.size) (w.heap.size + 1) (w.heap.size + 1 + 1) (w.heap.size + 1 + 1 + 1) (w.heap.size + 1 + 1 + 1 + 1) p (y.qs tn) tn kn i 5 (cell_of_row B.1 0) (cell_of_row B.2.1 0) (cell_of_row B.2.2.1 0) (cell_of_row B.2.2.2.1 0) ((th_is hy hw ht (xs := [(kn : Int)]) (by simp) (by simp [bk])).on B.2.2.2.2.2.2) ((he_no hy ht hk h0).on B.2.2.2.2.2.2))
    · obtain ⟨m, hm⟩ : ∃ m : Nat, (s.A tn).getD kn 0 = m := ⟨((s.A tn).getD kn 0).toNat, by omega⟩
      have hm1 : 1 ≤ m := by omega
      have hms : m ≤ s.m := by omega
      have hMm := hw.m
      have h95 := hw.r95 m hm1 hms
      have hhe := he_is hy ht hk hm hm1 hms (by omega)
      have hon : onD s tn kn = s.D m := by show s.D ((s.A tn).getD kn 0).toNat = s.D m; rw [hm]; rfl
      cases hi : badS (s.D m) i
      · obtain ⟨j, rfl, hj⟩ := badS_no hi
        have hE : readE s tn kn j = 0 := heldE_ok hb (show ofS s tn kn ≠ 0 from h0) ((congrArg (fun l => badS l _) hon).trans hi)
        rw [hE, show val 0 _ = _ from if_pos rfl, hon, show ((j : Int)).toNat = j from rfl]
        have B := bx_Read w (some ⟨p, 0, none⟩) (tn) (kn) (j)
        have hrow := hy.hd m hm1 hms
        have hc := ac_read_ok _ (w.heap.size) (w.heap.size + 1) (w.heap.size + 1 + 1) (w.heap.size + 1 + 1 + 1) (w.heap.size + 1 + 1 + 1 + 1) p (y.qs tn) j tn kn ((s.D m).getD j 0) (cell_of_row B.1 0) (cell_of_row B.2.1 0) (cell_of_row B.2.2.1 0) (cell_of_row B.2.2.2.1 0) ((th_is hy hw ht (xs := [(kn : Int)]) (by simp) (by simp [bk])).on B.2.2.2.2.2.2) _ _ _ _ _ _ (hhe.on B.2.2.2.2.2.2) ⟨hj, by omega⟩ ((hrow.keep0 B.2.2.2.2.2.2).cell hj) 0 ⟨B.2.2.2.2.1, rfl, by omega, by omega, by omega⟩
        refine (ok_Read w (some ⟨p, 0, none⟩) (tn) (kn) (j) (fun w3 => ∃ w2, True ∧ Kp [] _ w2 ∧ w3 = w2.setCell _ _) ((s.D m).getD j 0) hc ?_ ?_).mono ?_
        · rintro w3 ⟨w2, _, hk2, rfl⟩
          exact ((Kp.refl [w.heap.size + 1 + 1 + 1 + 1] w2).setCell (.inl (by simp)) _).row (by simp) (hk2.row (by simp) B.2.2.2.2.2.1)
        · rintro w3 ⟨w2, _, hk2, rfl⟩
          rw [heap_setCell_same _ _ _ _ _ _ (hk2.row (by simp) B.2.2.2.2.1)]; rfl
        · rintro e w' ⟨rfl, w3, ⟨w2, _, hk2, rfl⟩, hk4⟩
          have hk3 : Kp [w.heap.size + 1 + 1 + 1 + 1, w.heap.size + 1 + 1 + 1 + 1 + 1] w2 w' := (((Kp.refl [w.heap.size + 1 + 1 + 1 + 1] w2).setCell (.inl (by simp)) _).mono (by simp)).trans hk4
          exact ended_fail hy hf ⟨rfl, kp_root B.2.2.2.2.2.2 hk2 hk3 (by simp <;> omega)⟩
      · refine err 2 (by decide) (heldE_i hb (show ofS s tn kn ≠ 0 from h0) ((congrArg (fun l => badS l i) hon).trans hi)) ?_
        have B := bx_Read w (some ⟨p, 0, none⟩) (tn) (kn) (i)
        exact no_Read w (some ⟨p, 0, none⟩) (tn) (kn) (i) 2 (ac_read_it _ (w.heap.size) (w.heap.size + 1) (w.heap.size + 1 + 1) (w.heap.size + 1 + 1 + 1) (w.heap.size + 1 + 1 + 1 + 1) p (y.qs tn) tn kn i (cell_of_row B.1 0) (cell_of_row B.2.1 0) (cell_of_row B.2.2.1 0) (cell_of_row B.2.2.2.1 0) ((th_is hy hw ht (xs := [(kn : Int)]) (by simp) (by simp [bk])).on B.2.2.2.2.2.2) _ _ _ _ _ _ (hhe.on B.2.2.2.2.2.2) (badS_or hi))
  · refine err 2 (by decide) (heldE_b hb) ?_
    exact th_Read w (some ⟨p, 0, none⟩) t k i 2 (th_one hy hw hb)


theorem g_Write {F : Nat → Prop} {w : World} {p : Nat} {s : Gs} {M : Nat} (hx : Gx F w p s) (hw : Wf s M) (hM : M ≤ 10000) (t k i v : Int) :
    Calls Tryz.prog 26 #[.pointer (some ⟨p, 0, none⟩), .int .i64 t, .int .i64 k, .int .i64 i, .int .u64 v] w (Ended F w p (.int .i64 (readE s t k i)) (sta (readE s t k i) (setD s (ofS s t k).toNat i v) s)) := by
  obtain ⟨y, hy, hf⟩ := hx
  have err : ∀ x : Int, x ≠ 0 → readE s t k i = x → Calls Tryz.prog 26 #[.pointer (some ⟨p, 0, none⟩), .int .i64 t, .int .i64 k, .int .i64 i, .int .u64 v] w (Fail w (.int .i64 x)) → Calls Tryz.prog 26 #[.pointer (some ⟨p, 0, none⟩), .int .i64 t, .int .i64 k, .int .i64 i, .int .u64 v] w (Ended F w p (.int .i64 (readE s t k i)) (sta (readE s t k i) (setD s (ofS s t k).toNat i v) s)) := fun x hx0 hE hc => by
    rw [hE]
    rw [show sta x _ s = s from if_neg hx0]
    exact hc.mono fun _ _ h => ended_fail hy hf h
  cases hb : bK s t k
  · obtain ⟨tn, kn, rfl, rfl, ht, hk⟩ := bK_no hb
    have bk : badS (s.A tn) (kn : Int) = false := by simpa [badS] using hk
    have hv := hw.of ht hk
    by_cases h0 : (s.A tn).getD kn 0 = 0
    · refine err 5 (by decide) (heldE_0 hb h0) ?_
      have B := bx_Write w (some ⟨p, 0, none⟩) (tn) (kn) (i) (v)
      exact no_Write w (some ⟨p, 0, none⟩) (tn) (kn) (i) (v) 5 [] (ac_write_he _ (w.heap.size) (w.heap.size + 1) (w.heap.size + 1 + 1) (w.heap.size + 1 + 1 + 1 + 1) (w.heap.size + 1 + 1 + 1) p (y.qs tn) tn kn v i 5 (cell_of_row B.1 0) (cell_of_row B.2.1 0) (cell_of_row B.2.2.1 0) (cell_of_row B.2.2.2.2.1 0) (cell_of_row B.2.2.2.1 0) ((th_is hy hw ht (xs := [(kn : Int)]) (by simp) (by simp [bk])).on B.2.2.2.2.2.2) ((he_no hy ht hk h0).on B.2.2.2.2.2.2)) (by simp)
    · obtain ⟨m, hm⟩ : ∃ m : Nat, (s.A tn).getD kn 0 = m := ⟨((s.A tn).getD kn 0).toNat, by omega⟩
      have hm1 : 1 ≤ m := by omega
      have hms : m ≤ s.m := by omega
      have hMm := hw.m
      have h95 := hw.r95 m hm1 hms
      have hhe := he_is hy ht hk hm hm1 hms (by omega)
      have hon : onD s tn kn = s.D m := by show s.D ((s.A tn).getD kn 0).toNat = s.D m; rw [hm]; rfl
      cases hi : badS (s.D m) i
      · obtain ⟨j, rfl, hj⟩ := badS_no hi
        have hE : readE s tn kn j = 0 := heldE_ok hb (show ofS s tn kn ≠ 0 from h0) ((congrArg (fun l => badS l _) hon).trans hi)
        rw [hE, show sta 0 _ s = _ from if_pos rfl, show (ofS s tn kn).toNat = m from by show ((s.A tn).getD kn 0).toNat = m; rw [hm]; rfl]
        have B := bx_Write w (some ⟨p, 0, none⟩) (tn) (kn) (j) (v)
        have hrow := hy.hd m hm1 hms
        obtain ⟨cur, hcur, hcu⟩ := hrow
        have hrow := hy.hd m hm1 hms
        have hgl := hrow.lt
        have hc := ac_write_ok _ (w.heap.size) (w.heap.size + 1) (w.heap.size + 1 + 1) (w.heap.size + 1 + 1 + 1 + 1) (w.heap.size + 1 + 1 + 1) p (y.qs tn) j tn kn v (cell_of_row B.1 0) (cell_of_row B.2.1 0) (cell_of_row B.2.2.1 0) (cell_of_row B.2.2.2.2.1 0) (cell_of_row B.2.2.2.1 0) ((th_is hy hw ht (xs := [(kn : Int)]) (by simp) (by simp [bk])).on B.2.2.2.2.2.2) _ _ _ _ _ _ (hhe.on B.2.2.2.2.2.2) ⟨hj, by omega⟩ cur _ ⟨B.2.2.2.2.2.2.row (by simp) hcur, hcu j hj, by omega, by omega, by omega, by omega⟩
        refine (ok_Write w (some ⟨p, 0, none⟩) (tn) (kn) (j) (v) (fun w3 => ∃ w2, True ∧ Kp [] _ w2 ∧ w3 = w2.setCell _ _) hc ?_).mono ?_
        · rintro w3 ⟨w2, _, hk2, rfl⟩
          exact ((Kp.refl [y.dg m] w2).setCell (.inl (by simp)) _).row (by simp; omega) (hk2.row (by simp) B.2.2.2.2.2.1)
        · rintro e w' ⟨rfl, w3, ⟨w2, _, hk2, rfl⟩, hk4⟩
          have hrow2 := ((hrow.keep0 (B.2.2.2.2.2.2.trans hk2)).set hj (v)).keep hk4 (by simp; omega)
          have hkk : Kp [y.dg m] w w' := kp_root (B.2.2.2.2.2.2.trans hk2) ((Kp.refl [y.dg m] w2).setCell (.inl (by simp)) _) hk4 (by simp <;> omega)
          exact ⟨rfl, ⟨y, hy.data hm1 hms hj _ hrow2 hkk, fun b hb => .inl (hf b hb)⟩, Fr.of hkk fun b hb => hf b (by rw [List.mem_singleton] at hb; exact .inr (.inr (.inr (.inr (.inr ⟨_, hm1, hms, hb⟩)))))⟩
      · refine err 2 (by decide) (heldE_i hb (show ofS s tn kn ≠ 0 from h0) ((congrArg (fun l => badS l i) hon).trans hi)) ?_
        have B := bx_Write w (some ⟨p, 0, none⟩) (tn) (kn) (i) (v)
        exact no_Write w (some ⟨p, 0, none⟩) (tn) (kn) (i) (v) 2 [] (ac_write_it _ (w.heap.size) (w.heap.size + 1) (w.heap.size + 1 + 1) (w.heap.size + 1 + 1 + 1 + 1) (w.heap.size + 1 + 1 + 1) p (y.qs tn) tn kn v i (cell_of_row B.1 0) (cell_of_row B.2.1 0) (cell_of_row B.2.2.1 0) (cell_of_row B.2.2.2.2.1 0) (cell_of_row B.2.2.2.1 0) ((th_is hy hw ht (xs := [(kn : Int)]) (by simp) (by simp [bk])).on B.2.2.2.2.2.2) _ _ _ _ _ _ (hhe.on B.2.2.2.2.2.2) (badS_or hi)) (by simp)
  · refine err 2 (by decide) (heldE_b hb) ?_
    exact th_Write w (some ⟨p, 0, none⟩) t k i v 2 (th_one hy hw hb)


theorem g_Get {F : Nat → Prop} {w : World} {p : Nat} {s : Gs} {M : Nat} (hx : Gx F w p s) (hw : Wf s M) (hM : M ≤ 10000) (t d i : Int) :
    Calls Tryz.prog 27 #[.pointer (some ⟨p, 0, none⟩), .int .i64 t, .int .i64 d, .int .i64 i] w (Ended F w p (.tuple #[.int .i64 (val (getE s t d i) ((s.R 0).getD i.toNat 0)), .int .i64 (getE s t d i)]) (sta (getE s t d i) (setS s t d ((s.R 0).getD i.toNat 0)) s)) := by
  obtain ⟨y, hy, hf⟩ := hx
  have err : ∀ x : Int, x ≠ 0 → getE s t d i = x → Calls Tryz.prog 27 #[.pointer (some ⟨p, 0, none⟩), .int .i64 t, .int .i64 d, .int .i64 i] w (Fail w (.tuple #[.int .i64 0, .int .i64 x])) → Calls Tryz.prog 27 #[.pointer (some ⟨p, 0, none⟩), .int .i64 t, .int .i64 d, .int .i64 i] w (Ended F w p (.tuple #[.int .i64 (val (getE s t d i) ((s.R 0).getD i.toNat 0)), .int .i64 (getE s t d i)]) (sta (getE s t d i) (setS s t d ((s.R 0).getD i.toNat 0)) s)) := fun x hx0 hE hc => by
    rw [hE]
    rw [show val x _ = 0 from if_neg hx0]
    rw [show sta x _ s = s from if_neg hx0]
    exact hc.mono fun _ _ h => ended_fail hy hf h
  cases hb : bK s t d
  · obtain ⟨tn, dn, rfl, rfl, ht, hd⟩ := bK_no hb
    have bk : badS (s.A tn) (dn : Int) = false := by simpa [badS] using hd
    have h8 := hw.g8
    cases hi : badS (s.R 0) i
    · obtain ⟨j, rfl, hj⟩ := badS_no hi
      have hE : getE s tn dn j = 0 := if_neg (by simp [hb, hi])
      rw [hE, show val 0 _ = _ from if_pos rfl, show sta 0 _ s = _ from if_pos rfl, show ((j : Int)).toNat = j from rfl]
      have B := bx_Get w (some ⟨p, 0, none⟩) (tn) (dn) (j)
      have hql := qs_lt hy ht
      have hrow := hy.hi 0 (Nat.zero_le _)
      have hx0 := (hw.vR 0 (Nat.zero_le _) _ (getD_mem hj)).1
      have hc := ac_get_ok _ (w.heap.size) (w.heap.size + 1) (w.heap.size + 1 + 1) (w.heap.size + 1 + 1 + 1) (w.heap.size + 1 + 1 + 1 + 1) p (y.qs tn) j tn dn ((s.R 0).getD j 0) (cell_of_row B.1 0) (cell_of_row B.2.1 0) (cell_of_row B.2.2.1 0) (cell_of_row B.2.2.2.1 0) ((th_is hy hw ht (xs := [(dn : Int)]) (by simp) (by simp [bk])).on B.2.2.2.2.2.2) _ _ _ (hy.keep0 B.2.2.2.2.2.2).c1 ⟨hj, by omega⟩ ((hrow.keep0 B.2.2.2.2.2.2).cell hj) _ ((on_set hy ht hd hx0).on B.2.2.2.2.2.2) 0 B.2.2.2.2.1 (by omega)
      refine (ok_Get w (some ⟨p, 0, none⟩) (tn) (dn) (j) (fun w3 => ∃ w2, Rt w2 (y.qs tn) ((s.A tn).set dn ((s.R 0).getD j 0)) (s.L tn) ∧ Kp [y.qs tn] _ w2 ∧ w3 = w2.setCell _ _) ((s.R 0).getD j 0) hc ?_ ?_).mono ?_
      · rintro w3 ⟨w2, hR, hk2, rfl⟩
        exact ((Kp.refl [w.heap.size + 1 + 1 + 1 + 1] w2).setCell (.inl (by simp)) _).row (by simp) (hk2.row (by simp; omega) B.2.2.2.2.2.1)
      · rintro w3 ⟨w2, hR, hk2, rfl⟩
        rw [heap_setCell_same _ _ _ _ _ _ (hk2.row (by simp; omega) B.2.2.2.2.1)]; rfl
      · rintro e w' ⟨rfl, w3, ⟨w2, hR, hk2, rfl⟩, hk4⟩
        have hk3 : Kp [w.heap.size + 1 + 1 + 1 + 1, w.heap.size + 1 + 1 + 1 + 1 + 1] w2 w' := (((Kp.refl [w.heap.size + 1 + 1 + 1 + 1] w2).setCell (.inl (by simp)) _).mono (by simp)).trans hk4
        have := ended_root (r := .tuple #[.int .i64 ((s.R 0).getD j 0), .int .i64 0]) hy hf ht (hR.keep hk3 (by simp; omega)) (kp_root B.2.2.2.2.2.2 hk2 hk3 (by simp; omega)) rfl
        rw [up_id] at this
        simpa [setS] using this
    · refine err 2 (by decide) (if_pos (by simp [hi])) ?_
      have B := bx_Get w (some ⟨p, 0, none⟩) (tn) (dn) (i)
      exact no_Get w (some ⟨p, 0, none⟩) (tn) (dn) (i) 2 (ac_get_it _ (w.heap.size) (w.heap.size + 1) (w.heap.size + 1 + 1) (w.heap.size + 1 + 1 + 1) (w.heap.size + 1 + 1 + 1 + 1) p (y.qs tn) tn dn i (cell_of_row B.1 0) (cell_of_row B.2.1 0) (cell_of_row B.2.2.1 0) (cell_of_row B.2.2.2.1 0) ((th_is hy hw ht (xs := [(dn : Int)]) (by simp) (by simp [bk])).on B.2.2.2.2.2.2) _ _ _ (hy.keep0 B.2.2.2.2.2.2).c1 (badS_or hi))
  · refine err 2 (by decide) (if_pos (by simp [hb])) ?_
    exact th_Get w (some ⟨p, 0, none⟩) t d i 2 (th_one hy hw hb)


theorem g_Put {F : Nat → Prop} {w : World} {p : Nat} {s : Gs} {M : Nat} (hx : Gx F w p s) (hw : Wf s M) (hM : M ≤ 10000) (t i k : Int) :
    Calls Tryz.prog 28 #[.pointer (some ⟨p, 0, none⟩), .int .i64 t, .int .i64 i, .int .i64 k] w (Ended F w p (.int .i64 (getE s t k i)) (sta (getE s t k i) (setR s 0 i (ofS s t k)) s)) := by
  obtain ⟨y, hy, hf⟩ := hx
  have err : ∀ x : Int, x ≠ 0 → getE s t k i = x → Calls Tryz.prog 28 #[.pointer (some ⟨p, 0, none⟩), .int .i64 t, .int .i64 i, .int .i64 k] w (Fail w (.int .i64 x)) → Calls Tryz.prog 28 #[.pointer (some ⟨p, 0, none⟩), .int .i64 t, .int .i64 i, .int .i64 k] w (Ended F w p (.int .i64 (getE s t k i)) (sta (getE s t k i) (setR s 0 i (ofS s t k)) s)) := fun x hx0 hE hc => by
    rw [hE]
    rw [show sta x _ s = s from if_neg hx0]
    exact hc.mono fun _ _ h => ended_fail hy hf h
  cases hb : bK s t k
  · obtain ⟨tn, kn, rfl, rfl, ht, hk⟩ := bK_no hb
    have bk : badS (s.A tn) (kn : Int) = false := by simpa [badS] using hk
    have h8 := hw.g8
    cases hi : badS (s.R 0) i
    · obtain ⟨j, rfl, hj⟩ := badS_no hi
      have hE : getE s tn kn j = 0 := if_neg (by simp [hb, hi])
      rw [hE, show sta 0 _ s = _ from if_pos rfl]
      have B := bx_Put w (some ⟨p, 0, none⟩) (tn) (j) (kn)
      have hrow := hy.hi 0 (Nat.zero_le _)
      obtain ⟨cur, hcur, hcu⟩ := hrow
      have hrow := hy.hi 0 (Nat.zero_le _)
      have hgl := hrow.lt
      have hms := Nat.zero_le s.m
      have hpl := lt_of_block hy.hp
      have hpg := ne_types hy.hp hcur (by decide)
      have hc := ac_put_ok _ (w.heap.size) (w.heap.size + 1) (w.heap.size + 1 + 1 + 1) (w.heap.size + 1 + 1) p (y.qs tn) j tn kn ((s.A tn).getD kn 0) (cell_of_row B.1 0) (cell_of_row B.2.1 0) (cell_of_row B.2.2.2.1 0) (cell_of_row B.2.2.1 0) ((th_is hy hw ht (xs := [(kn : Int)]) (by simp) (by simp [bk])).on B.2.2.2.2.2) _ _ _ (hy.keep0 B.2.2.2.2.2).c1 ⟨hj, by omega⟩ ((re_is hy ht hk).on B.2.2.2.2.2) cur _ ⟨B.2.2.2.2.2.row (by simp) hcur, hcu j hj, by omega, by omega, by omega, by omega⟩
      refine (ok_Put w (some ⟨p, 0, none⟩) (tn) (j) (kn) (fun w3 => ∃ w2, True ∧ Kp [] _ w2 ∧ w3 = w2.setCell _ _) hc ?_).mono ?_
      · rintro w3 ⟨w2, _, hk2, rfl⟩
        exact ((Kp.refl [y.ig 0] w2).setCell (.inl (by simp)) _).row (by simp; omega) (hk2.row (by simp) B.2.2.2.2.1)
      · rintro e w' ⟨rfl, w3, ⟨w2, _, hk2, rfl⟩, hk4⟩
        have hrow2 := ((hrow.keep0 (B.2.2.2.2.2.trans hk2)).set hj ((s.A tn).getD kn 0)).keep hk4 (by simp; omega)
        have hkk : Kp [y.ig 0] w w' := kp_root (B.2.2.2.2.2.trans hk2) ((Kp.refl [y.ig 0] w2).setCell (.inl (by simp)) _) hk4 (by simp <;> omega)
        exact ⟨rfl, ⟨y, hy.refs hms hj _ hrow2 hkk, fun b hb => .inl (hf b hb)⟩, Fr.of hkk fun b hb => hf b (by rw [List.mem_singleton] at hb; exact .inr (.inr (.inr (.inr (.inl ⟨_, ‹_ ≤ s.m›, hb⟩)))))⟩
    · refine err 2 (by decide) (if_pos (by simp [hi])) ?_
      have B := bx_Put w (some ⟨p, 0, none⟩) (tn) (i) (kn)
      exact no_Put w (some ⟨p, 0, none⟩) (tn) (i) (kn) 2 [] (ac_put_it _ (w.heap.size) (w.heap.size + 1) (w.heap.size + 1 + 1 + 1) (w.heap.size + 1 + 1) p (y.qs tn) tn kn i (cell_of_row B.1 0) (cell_of_row B.2.1 0) (cell_of_row B.2.2.2.1 0) (cell_of_row B.2.2.1 0) ((th_is hy hw ht (xs := [(kn : Int)]) (by simp) (by simp [bk])).on B.2.2.2.2.2) _ _ _ (hy.keep0 B.2.2.2.2.2).c1 (badS_or hi)) (by simp)
  · refine err 2 (by decide) (if_pos (by simp [hb])) ?_
    exact th_Put w (some ⟨p, 0, none⟩) t i k 2 (th_one hy hw hb)


end Go.Proofs.YtmbhhadghiojeaaGreat

namespace Go.Proofs.YtmbhhadghiojeaaGreat
set_option linter.unusedVariables false
set_option linter.unusedSimpArgs false
open Go.RowKit


theorem on_push_no {w : World} {p : Nat} {s : Gs} {y : Ly} (hy : Gy w p s y) {t : Nat} (ht : t < s.nt) (k : Int) (h : pushE (s.A t) (s.L t) k ≠ 0) : OnNo w 73 (y.qs t) #[.int .i64 k] (pushE (s.A t) (s.L t) k) := fun w1 k1 => by
  have hR := (hy.keep0 k1).hq t ht
  by_cases hb : badS (s.A t) k = true
  · rw [show pushE (s.A t) (s.L t) k = 2 from if_pos hb]
    exact push_bad w1 _ _ _ hR k (badS_or hb)
  · obtain ⟨j, rfl, hj⟩ := badS_no (by simpa using hb)
    by_cases hl : (s.L t).length = 16
    · rw [pushE, if_neg hb, if_pos hl]
      exact push_full w1 _ _ _ hR j hj hl
    · rw [pushE, if_neg hb, if_neg hl] at h
      exact absurd rfl h
theorem on_push {w : World} {p : Nat} {s : Gs} {y : Ly} (hy : Gy w p s y) {t : Nat} (ht : t < s.nt) (k : Int) (h : pushE (s.A t) (s.L t) k = 0) : OnIs w 73 (y.qs t) #[.int .i64 k] 0 fun w' => Rt w' (y.qs t) (s.A t) (pushL (s.A t) (s.L t) k) := fun w1 k1 => by
  have := push_any w1 (y.qs t) _ _ ((hy.keep0 k1).hq t ht) k
  rw [h] at this
  exact this
theorem on_pop_no {w : World} {p : Nat} {s : Gs} {y : Ly} (hy : Gy w p s y) {t : Nat} (ht : t < s.nt) (k : Int) (h : popE (s.A t) (s.L t) k ≠ 0) : OnNo w 75 (y.qs t) #[.int .i64 k] (popE (s.A t) (s.L t) k) := fun w1 k1 => by
  have hR := (hy.keep0 k1).hq t ht
  by_cases hb : badS (s.A t) k = true
  · rw [show popE (s.A t) (s.L t) k = 2 from if_pos hb]
    exact pop_bad w1 _ _ _ hR k (badS_or hb)
  · obtain ⟨j, rfl, hj⟩ := badS_no (by simpa using hb)
    by_cases hl : s.L t = []
    · rw [popE, if_neg hb, if_pos hl]
      rw [hl] at hR
      exact pop_empty w1 _ _ hR j hj
    · rw [popE, if_neg hb, if_neg hl] at h
      exact absurd rfl h
theorem on_pop {w : World} {p : Nat} {s : Gs} {y : Ly} (hy : Gy w p s y) {t : Nat} (ht : t < s.nt) (k : Int) (h : popE (s.A t) (s.L t) k = 0) : OnIs w 75 (y.qs t) #[.int .i64 k] 0 fun w' => Rt w' (y.qs t) (popA (s.A t) (s.L t) k) (popL (s.A t) (s.L t) k) := fun w1 k1 => by
  have := pop_any w1 (y.qs t) _ _ ((hy.keep0 k1).hq t ht) k
  rw [h] at this
  exact this
theorem Grew.base {w W w5 : World} {B m r d : Nat} {f : Nat → Value} (h : Grew W B m r d f w5) (k : Kp [] w W) : Grew w B m r d f w5 := by
  obtain ⟨gi, gd, h1, h2, h3, h4, h5, h6⟩ := h
  exact ⟨gi, gd, Nat.le_trans k.size h1, Nat.le_trans k.size h2, h3, h4, h5, kp_then k h6⟩

theorem g_Move {F : Nat → Prop} {w : World} {p : Nat} {s : Gs} {M : Nat} (hx : Gx F w p s) (hw : Wf s M) (hM : M ≤ 10000) (t d k : Int) :
    Calls Tryz.prog 29 #[.pointer (some ⟨p, 0, none⟩), .int .i64 t, .int .i64 d, .int .i64 k] w (Ended F w p (.int .i64 (moveE s t d k)) (sta (moveE s t d k) (setS s t d (ofS s t k)) s)) := by
  obtain ⟨y, hy, hf⟩ := hx
  have err : ∀ x : Int, x ≠ 0 → moveE s t d k = x → Calls Tryz.prog 29 #[.pointer (some ⟨p, 0, none⟩), .int .i64 t, .int .i64 d, .int .i64 k] w (Fail w (.int .i64 x)) → Calls Tryz.prog 29 #[.pointer (some ⟨p, 0, none⟩), .int .i64 t, .int .i64 d, .int .i64 k] w (Ended F w p (.int .i64 (moveE s t d k)) (sta (moveE s t d k) (setS s t d (ofS s t k)) s)) := fun x hx0 hE hc => by
    rw [hE]
    rw [show sta x _ s = s from if_neg hx0]
    exact hc.mono fun _ _ h => ended_fail hy hf h
  cases hb : (bK s t d || bK s t k)
  · have hb2 := hb
    rw [Bool.or_eq_false_iff] at hb2
    obtain ⟨tn, dn, rfl, rfl, ht, hd⟩ := bK_no hb2.1
    obtain ⟨tn', kn, e1, rfl, _, hk⟩ := bK_no hb2.2
    obtain rfl : tn = tn' := by omega
    have bd : badS (s.A tn) (dn : Int) = false := by simpa [badS] using hd
    have bk : badS (s.A tn) (kn : Int) = false := by simpa [badS] using hk
    have hE : moveE s tn dn kn = 0 := if_neg (by simp [hb2.1, hb2.2])
    have hx0 := (hw.of ht hk).1
    rw [hE, show sta 0 _ s = _ from if_pos rfl]
    have B := bx_Move w (some ⟨p, 0, none⟩) (tn) (dn) (kn)
    have hql := qs_lt hy ht
    have hc := ac_move_ok _ (w.heap.size) (w.heap.size + 1) (w.heap.size + 1 + 1) (w.heap.size + 1 + 1 + 1) p (y.qs tn) tn dn kn ((s.A tn).getD kn 0) (cell_of_row B.1 0) (cell_of_row B.2.1 0) (cell_of_row B.2.2.1 0) (cell_of_row B.2.2.2.1 0) ((th_is hy hw ht (xs := [(dn : Int), (kn : Int)]) (by simp) (by simp [bd, bk])).on B.2.2.2.2.2) ((re_is hy ht hk).on B.2.2.2.2.2) _ ((on_set hy ht hd hx0).on B.2.2.2.2.2) ⟨by omega, by omega⟩
    refine (ok_Move w (some ⟨p, 0, none⟩) (tn) (dn) (kn) (fun w3 => Rt w3 (y.qs tn) ((s.A tn).set dn ((s.A tn).getD kn 0)) (s.L tn) ∧ Kp [y.qs tn] _ w3) hc ?_).mono ?_
    · rintro w3 ⟨hR, hk2⟩
      exact hk2.row (by simp; omega) B.2.2.2.2.1
    · rintro e w' ⟨rfl, w3, ⟨hR, hk2⟩, hk4⟩
      have := ended_root (r := .int .i64 0) hy hf ht (hR.keep hk4 (by simp; omega)) (kp_root B.2.2.2.2.2 hk2 hk4 (by simp <;> omega)) rfl
      rw [up_id] at this
      simpa [setS, ofS] using this
  · refine err 2 (by decide) (if_pos hb) ?_
    exact th_Move w (some ⟨p, 0, none⟩) t d k 2 (th_two hy hw hb)


theorem g_Clear {F : Nat → Prop} {w : World} {p : Nat} {s : Gs} {M : Nat} (hx : Gx F w p s) (hw : Wf s M) (hM : M ≤ 10000) (t d : Int) :
    Calls Tryz.prog 17 #[.pointer (some ⟨p, 0, none⟩), .int .i64 t, .int .i64 d] w (Ended F w p (.int .i64 (clearE s t d)) (sta (clearE s t d) (setS s t d 0) s)) := by
  obtain ⟨y, hy, hf⟩ := hx
  have err : ∀ x : Int, x ≠ 0 → clearE s t d = x → Calls Tryz.prog 17 #[.pointer (some ⟨p, 0, none⟩), .int .i64 t, .int .i64 d] w (Fail w (.int .i64 x)) → Calls Tryz.prog 17 #[.pointer (some ⟨p, 0, none⟩), .int .i64 t, .int .i64 d] w (Ended F w p (.int .i64 (clearE s t d)) (sta (clearE s t d) (setS s t d 0) s)) := fun x hx0 hE hc => by
    rw [hE]
    rw [show sta x _ s = s from if_neg hx0]
    exact hc.mono fun _ _ h => ended_fail hy hf h
  cases hb : bT s t
  · obtain ⟨tn, rfl, ht⟩ := bT_no hb
    cases hd : badS (s.A tn) d
    · obtain ⟨dn, rfl, hdn⟩ := badS_no hd
      have hE : clearE s tn dn = 0 := if_neg (by simp [bK, hb, hd])
      rw [hE, show sta 0 _ s = _ from if_pos rfl]
      have B := bx_Clear w (some ⟨p, 0, none⟩) (tn) (dn)
      have hql := qs_lt hy ht
      have hc := ac_clear_ok _ (w.heap.size) (w.heap.size + 1) (w.heap.size + 1 + 1) p (y.qs tn) tn dn (cell_of_row B.1 0) (cell_of_row B.2.1 0) (cell_of_row B.2.2.1 0) ((th_is hy hw ht (xs := []) (by simp) (by simp)).on B.2.2.2.2) _ ((on_set hy ht hdn (Int.le_refl 0)).on B.2.2.2.2) ⟨by omega, by omega, by omega⟩
      refine (ok_Clear w (some ⟨p, 0, none⟩) (tn) (dn) (fun w3 => Rt w3 (y.qs tn) ((s.A tn).set dn 0) (s.L tn) ∧ Kp [y.qs tn] _ w3) hc ?_).mono ?_
      · rintro w3 ⟨hR, hk2⟩
        exact hk2.row (by simp; omega) B.2.2.2.1
      · rintro e w' ⟨rfl, w3, ⟨hR, hk2⟩, hk4⟩
        have := ended_root (r := .int .i64 0) hy hf ht (hR.keep hk4 (by simp; omega)) (kp_root B.2.2.2.2 hk2 hk4 (by simp <;> omega)) rfl
        rw [up_id] at this
        simpa [setS] using this
    · refine err 2 (by decide) (if_pos (by simp [bK, hd])) ?_
      have B := bx_Clear w (some ⟨p, 0, none⟩) (tn) (d)
      exact no_Clear w (some ⟨p, 0, none⟩) (tn) (d) 2 [] (ac_clear_no _ (w.heap.size) (w.heap.size + 1) (w.heap.size + 1 + 1) p (y.qs tn) tn d 2 (cell_of_row B.1 0) (cell_of_row B.2.1 0) (cell_of_row B.2.2.1 0) ((th_is hy hw ht (xs := []) (by simp) (by simp)).on B.2.2.2.2) (by decide) fun w1 k1 => set_bad w1 (y.qs tn) _ _ ((hy.keep0 (B.2.2.2.2.trans k1)).hq tn ht) d 0 ((badS_or hd).elim .inl fun q => .inr (.inl q))) (by simp)
  · refine err 2 (by decide) (if_pos (by simp [bK, hb])) ?_
    exact th_Clear w (some ⟨p, 0, none⟩) t d 2 (th_bad hy hb [])


theorem push_stays {A L : List Int} {k : Int} (h : pushE A L k ≠ 0) : pushL A L k = L := by
  unfold pushE at h
  unfold pushL
  by_cases hb : badS A k = true
  · rw [if_pos hb]
  · rw [if_neg hb] at h ⊢
    by_cases hl : L.length = 16
    · rw [if_pos hl]
    · rw [if_neg hl] at h; exact absurd rfl h

theorem g_Push {F : Nat → Prop} {w : World} {p : Nat} {s : Gs} {M : Nat} (hx : Gx F w p s) (hw : Wf s M) (hM : M ≤ 10000) (t d : Int) :
    Calls Tryz.prog 30 #[.pointer (some ⟨p, 0, none⟩), .int .i64 t, .int .i64 d] w (Ended F w p (.int .i64 (gpushE s t d)) (gpushS s t d)) := by
  obtain ⟨y, hy, hf⟩ := hx
  cases hb : bT s t
  · obtain ⟨tn, rfl, ht⟩ := bT_no hb
    have eE : gpushE s tn d = pushE (s.A tn) (s.L tn) d := if_neg (by simp [hb])
    have eS : gpushS s tn d = { s with A := up s.A tn (s.A tn), L := up s.L tn (pushL (s.A tn) (s.L tn) d) } := if_neg (by simp [hb])
    rw [eE, eS]
    by_cases h0 : pushE (s.A tn) (s.L tn) d = 0
    · rw [h0]
      have B := bx_Push w (some ⟨p, 0, none⟩) (tn) (d)
      have hql := qs_lt hy ht
      have hc := ac_push_ok _ (w.heap.size) (w.heap.size + 1) (w.heap.size + 1 + 1) p (y.qs tn) tn d (cell_of_row B.1 0) (cell_of_row B.2.1 0) (cell_of_row B.2.2.1 0) ((th_is hy hw ht (xs := []) (by simp) (by simp)).on B.2.2.2.2) _ ((on_push hy ht d h0).on B.2.2.2.2) ⟨by omega, by omega, by omega⟩
      refine (ok_Push w (some ⟨p, 0, none⟩) (tn) (d) (fun w3 => Rt w3 (y.qs tn) ((s.A tn)) ((pushL (s.A tn) (s.L tn) d)) ∧ Kp [y.qs tn] _ w3) hc ?_).mono ?_
      · rintro w3 ⟨hR, hk2⟩
        exact hk2.row (by simp; omega) B.2.2.2.1
      · rintro e w' ⟨rfl, w3, ⟨hR, hk2⟩, hk4⟩
        have := ended_root (r := .int .i64 0) hy hf ht (hR.keep hk4 (by simp; omega)) (kp_root B.2.2.2.2 hk2 hk4 (by simp <;> omega)) rfl
        exact this
    · rw [show pushL (s.A tn) (s.L tn) d = s.L tn from push_stays h0, up_id, up_id]
      have B := bx_Push w (some ⟨p, 0, none⟩) (tn) (d)
      exact (no_Push w (some ⟨p, 0, none⟩) (tn) (d) (pushE (s.A tn) (s.L tn) d) [] (ac_push_no _ (w.heap.size) (w.heap.size + 1) (w.heap.size + 1 + 1) p (y.qs tn) tn d _ (cell_of_row B.1 0) (cell_of_row B.2.1 0) (cell_of_row B.2.2.1 0) ((th_is hy hw ht (xs := []) (by simp) (by simp)).on B.2.2.2.2) (by simpa using h0) ((on_push_no hy ht d h0).on B.2.2.2.2)) (by simp)).mono fun _ _ h => ended_fail hy hf h
  · rw [show gpushE s t d = 2 from if_pos hb, show gpushS s t d = s from if_pos hb]
    exact (th_Push w (some ⟨p, 0, none⟩) t d 2 (th_bad hy hb [])).mono fun _ _ h => ended_fail hy hf h

theorem pop_stays {A L : List Int} {k : Int} (h : popE A L k ≠ 0) : popA A L k = A ∧ popL A L k = L := by
  unfold popE at h
  unfold popA popL
  by_cases hb : badS A k = true
  · rw [if_pos hb, if_pos hb]; exact ⟨rfl, rfl⟩
  · rw [if_neg hb] at h
    rw [if_neg hb, if_neg hb]
    by_cases hl : L = []
    · rw [if_pos hl, hl]; exact ⟨rfl, rfl⟩
    · rw [if_neg hl] at h; exact absurd rfl h

theorem g_Pop {F : Nat → Prop} {w : World} {p : Nat} {s : Gs} {M : Nat} (hx : Gx F w p s) (hw : Wf s M) (hM : M ≤ 10000) (t d : Int) :
    Calls Tryz.prog 31 #[.pointer (some ⟨p, 0, none⟩), .int .i64 t, .int .i64 d] w (Ended F w p (.int .i64 (gpopE s t d)) (gpopS s t d)) := by
  obtain ⟨y, hy, hf⟩ := hx
  cases hb : bT s t
  · obtain ⟨tn, rfl, ht⟩ := bT_no hb
    have eE : gpopE s tn d = popE (s.A tn) (s.L tn) d := if_neg (by simp [hb])
    have eS : gpopS s tn d = { s with A := up s.A tn (popA (s.A tn) (s.L tn) d), L := up s.L tn (popL (s.A tn) (s.L tn) d) } := if_neg (by simp [hb])
    rw [eE, eS]
    by_cases h0 : popE (s.A tn) (s.L tn) d = 0
    · rw [h0]
      have B := bx_Pop w (some ⟨p, 0, none⟩) (tn) (d)
      have hql := qs_lt hy ht
      have hc := ac_pop_ok _ (w.heap.size) (w.heap.size + 1) (w.heap.size + 1 + 1) p (y.qs tn) tn d (cell_of_row B.1 0) (cell_of_row B.2.1 0) (cell_of_row B.2.2.1 0) ((th_is hy hw ht (xs := []) (by simp) (by simp)).on B.2.2.2.2) _ ((on_pop hy ht d h0).on B.2.2.2.2) ⟨by omega, by omega, by omega⟩
      refine (ok_Pop w (some ⟨p, 0, none⟩) (tn) (d) (fun w3 => Rt w3 (y.qs tn) ((popA (s.A tn) (s.L tn) d)) ((popL (s.A tn) (s.L tn) d)) ∧ Kp [y.qs tn] _ w3) hc ?_).mono ?_
      · rintro w3 ⟨hR, hk2⟩
        exact hk2.row (by simp; omega) B.2.2.2.1
      · rintro e w' ⟨rfl, w3, ⟨hR, hk2⟩, hk4⟩
        have := ended_root (r := .int .i64 0) hy hf ht (hR.keep hk4 (by simp; omega)) (kp_root B.2.2.2.2 hk2 hk4 (by simp <;> omega)) rfl
        exact this
    · rw [(pop_stays h0).1, (pop_stays h0).2, up_id, up_id]
      have B := bx_Pop w (some ⟨p, 0, none⟩) (tn) (d)
      exact (no_Pop w (some ⟨p, 0, none⟩) (tn) (d) (popE (s.A tn) (s.L tn) d) [] (ac_pop_no _ (w.heap.size) (w.heap.size + 1) (w.heap.size + 1 + 1) p (y.qs tn) tn d _ (cell_of_row B.1 0) (cell_of_row B.2.1 0) (cell_of_row B.2.2.1 0) ((th_is hy hw ht (xs := []) (by simp) (by simp)).on B.2.2.2.2) (by simpa using h0) ((on_pop_no hy ht d h0).on B.2.2.2.2)) (by simp)).mono fun _ _ h => ended_fail hy hf h
  · rw [show gpopE s t d = 2 from if_pos hb, show gpopS s t d = s from if_pos hb]
    exact (th_Pop w (some ⟨p, 0, none⟩) t d 2 (th_bad hy hb [])).mono fun _ _ h => ended_fail hy hf h

theorem g_Slot {F : Nat → Prop} {w : World} {p : Nat} {s : Gs} {M : Nat} (hx : Gx F w p s) (hw : Wf s M) (hM : M ≤ 10000) (t d : Int) :
    Calls Tryz.prog 32 #[.pointer (some ⟨p, 0, none⟩), .int .i64 t, .int .i64 d] w (Ended F w p (.tuple #[.int .i64 (val (clearE s t d) (ofS s t d)), .int .i64 (clearE s t d)]) (s)) := by
  obtain ⟨y, hy, hf⟩ := hx
  have err : ∀ x : Int, x ≠ 0 → clearE s t d = x → Calls Tryz.prog 32 #[.pointer (some ⟨p, 0, none⟩), .int .i64 t, .int .i64 d] w (Fail w (.tuple #[.int .i64 0, .int .i64 x])) → Calls Tryz.prog 32 #[.pointer (some ⟨p, 0, none⟩), .int .i64 t, .int .i64 d] w (Ended F w p (.tuple #[.int .i64 (val (clearE s t d) (ofS s t d)), .int .i64 (clearE s t d)]) (s)) := fun x hx0 hE hc => by
    rw [hE]
    rw [show val x _ = 0 from if_neg hx0]
    exact hc.mono fun _ _ h => ended_fail hy hf h
  cases hb : bT s t
  · obtain ⟨tn, rfl, ht⟩ := bT_no hb
    cases hd : badS (s.A tn) d
    · obtain ⟨kn, rfl, hk⟩ := badS_no hd
      have hE : clearE s tn kn = 0 := if_neg (by simp [bK, hb, hd])
      rw [hE, show val 0 _ = _ from if_pos rfl]
      have B := bx_Slot w (some ⟨p, 0, none⟩) (tn) (kn)
      have hc := ac_slot_ok _ (w.heap.size) (w.heap.size + 1) (w.heap.size + 1 + 1) (w.heap.size + 1 + 1 + 1) p (y.qs tn) tn kn ((s.A tn).getD kn 0) (cell_of_row B.1 0) (cell_of_row B.2.1 0) (cell_of_row B.2.2.1 0) ((th_is hy hw ht (xs := []) (by simp) (by simp)).on B.2.2.2.2.2) ((re_is hy ht hk).on B.2.2.2.2.2) 0 ⟨B.2.2.2.1, rfl, by omega, by omega, by omega⟩
      refine (ok_Slot w (some ⟨p, 0, none⟩) (tn) (kn) (fun w3 => ∃ w2, True ∧ Kp [] _ w2 ∧ w3 = w2.setCell _ _) ((s.A tn).getD kn 0) hc ?_ ?_).mono ?_
      · rintro w3 ⟨w2, _, hk2, rfl⟩
        exact ((Kp.refl [w.heap.size + 1 + 1 + 1] w2).setCell (.inl (by simp)) _).row (by simp) (hk2.row (by simp) B.2.2.2.2.1)
      · rintro w3 ⟨w2, _, hk2, rfl⟩
        rw [heap_setCell_same _ _ _ _ _ _ (hk2.row (by simp) B.2.2.2.1)]; rfl
      · rintro e w' ⟨rfl, w3, ⟨w2, _, hk2, rfl⟩, hk4⟩
        have hk3 : Kp [w.heap.size + 1 + 1 + 1, w.heap.size + 1 + 1 + 1 + 1] w2 w' := (((Kp.refl [w.heap.size + 1 + 1 + 1] w2).setCell (.inl (by simp)) _).mono (by simp)).trans hk4
        exact ended_fail hy hf ⟨rfl, kp_root B.2.2.2.2.2 hk2 hk3 (by simp <;> omega)⟩
    · refine err 2 (by decide) (if_pos (by simp [bK, hd])) ?_
      have B := bx_Slot w (some ⟨p, 0, none⟩) (tn) (d)
      exact no_Slot w (some ⟨p, 0, none⟩) (tn) (d) 2 (ac_slot_no _ (w.heap.size) (w.heap.size + 1) (w.heap.size + 1 + 1) (w.heap.size + 1 + 1 + 1) p (y.qs tn) tn d 2 (cell_of_row B.1 0) (cell_of_row B.2.1 0) (cell_of_row B.2.2.1 0) ((th_is hy hw ht (xs := []) (by simp) (by simp)).on B.2.2.2.2.2) ((re_no hy ht hd).on B.2.2.2.2.2))
  · refine err 2 (by decide) (if_pos (by simp [bK, hb])) ?_
    exact th_Slot w (some ⟨p, 0, none⟩) t d 2 (th_bad hy hb [])


theorem g_Alloc {F : Nat → Prop} {w : World} {p : Nat} {s : Gs} {M : Nat} (hx : Gx F w p s) (hw : Wf s M) (hM : M ≤ 10000) (t d r z : Int) :
    Calls Tryz.prog 15 #[.pointer (some ⟨p, 0, none⟩), .int .i64 t, .int .i64 d, .int .i64 r, .int .i64 z] w (Ended F w p (.tuple #[.int .i64 (val (allocE s t d r z) ((s.m : Int) + 1)), .int .i64 (allocE s t d r z)]) (sta (allocE s t d r z) (setS (newO s r z) t d ((s.m : Int) + 1)) s)) := by
  obtain ⟨y, hy, hf⟩ := hx
  have err : ∀ x : Int, x ≠ 0 → allocE s t d r z = x → Calls Tryz.prog 15 #[.pointer (some ⟨p, 0, none⟩), .int .i64 t, .int .i64 d, .int .i64 r, .int .i64 z] w (Fail w (.tuple #[.int .i64 0, .int .i64 x])) → Calls Tryz.prog 15 #[.pointer (some ⟨p, 0, none⟩), .int .i64 t, .int .i64 d, .int .i64 r, .int .i64 z] w (Ended F w p (.tuple #[.int .i64 (val (allocE s t d r z) ((s.m : Int) + 1)), .int .i64 (allocE s t d r z)]) (sta (allocE s t d r z) (setS (newO s r z) t d ((s.m : Int) + 1)) s)) := fun x hx0 hE hc => by
    rw [hE]
    rw [show val x _ = 0 from if_neg hx0]
    rw [show sta x _ s = s from if_neg hx0]
    exact hc.mono fun _ _ h => ended_fail hy hf h
  cases hb : bK s t d
  · obtain ⟨tn, kn, rfl, rfl, ht, hk⟩ := bK_no hb
    have bk : badS (s.A tn) (kn : Int) = false := by simpa [badS] using hk
    have hMm := hw.m
    have hql := qs_lt hy ht
    by_cases hr : r < 0 ∨ z < r ∨ 95 < z
    · refine err 2 (by decide) (by rw [allocE, hb]; simp; omega) ?_
      have B := bx_Alloc w (some ⟨p, 0, none⟩) (tn) (kn) (r) (z)
      exact no_Alloc w (some ⟨p, 0, none⟩) (tn) (kn) (r) (z) 2 (ac_alloc_need _ (w.heap.size) (w.heap.size + 1) (w.heap.size + 1 + 1) (w.heap.size + 1 + 1 + 1) (w.heap.size + 1 + 1 + 1 + 1) (w.heap.size + 1 + 1 + 1 + 1 + 1) p (y.qs tn) tn kn r z (cell_of_row B.1 0) (cell_of_row B.2.1 0) (cell_of_row B.2.2.1 0) (cell_of_row B.2.2.2.1 0) (cell_of_row B.2.2.2.2.1 0) ((th_is hy hw ht (xs := [(kn : Int)]) (by simp) (by simp [bk])).on B.2.2.2.2.2.2.2) hr)
    · have hE : allocE s tn kn r z = 0 := by rw [allocE, hb]; simp; omega
      rw [hE, show val 0 _ = _ from if_pos rfl, show sta 0 _ s = _ from if_pos rfl]
      obtain ⟨rn, rfl⟩ : ∃ rn : Nat, r = rn := ⟨r.toNat, by omega⟩
      obtain ⟨f, hfz⟩ : ∃ f : Nat, z = (rn : Int) + f := ⟨(z - rn).toNat, by omega⟩
      have B := bx_Alloc w (some ⟨p, 0, none⟩) (tn) (kn) (rn) (z)
      obtain ⟨csq, hqrow⟩ := (hy.hq tn ht).row
      have hBl := hy.lt (b := y.B) (.inr (.inr (.inl rfl)))
      have hyW := hy.keep0 B.2.2.2.2.2.2.2
      have hqB := hy.hm.ne hqrow
      have hpB := hy.hm.ne hy.hp
      have hc := ac_alloc_ok _ (w.heap.size) (w.heap.size + 1) (w.heap.size + 1 + 1) (w.heap.size + 1 + 1 + 1) (w.heap.size + 1 + 1 + 1 + 1) (w.heap.size + 1 + 1 + 1 + 1 + 1) p (y.qs tn) rn f y.B s.m tn kn z (cell_of_row B.1 0) (cell_of_row B.2.1 0) (cell_of_row B.2.2.1 0) (cell_of_row B.2.2.2.1 0) (cell_of_row B.2.2.2.2.1 0) ((th_is hy hw ht (xs := [(kn : Int)]) (by simp) (by simp [bk])).on B.2.2.2.2.2.2.2) hyW.c2 _ hyW.hm (by omega) ⟨hfz, by omega⟩
        (fun _ w' => Rt w' (y.qs tn) ((s.A tn).set kn ((s.m : Int) + 1)) (s.L tn))
        (fun w1 hg => set_ok w1 (y.qs tn) _ _ ((hyW.hq tn ht).keep hg.choose_spec.choose_spec.2.2.2.2.2 (by simpa using hqB.symm)) kn ((s.m : Int) + 1) hk (by omega)) 0 ⟨B.2.2.2.2.2.1, by omega, by omega⟩ ⟨by omega, by omega, by omega, by omega, fun e => hpB e.symm⟩
      refine (ok_Alloc w (some ⟨p, 0, none⟩) (tn) (kn) (rn) (z) (fun w3 => ∃ w1 w2, Grew _ y.B s.m rn f (y.obj s) w1 ∧ Rt w2 (y.qs tn) ((s.A tn).set kn ((s.m : Int) + 1)) (s.L tn) ∧ Kp [y.qs tn] w1 w2 ∧ w3 = w2.setCell _ _) ((s.m : Int) + 1) hc ?_ ?_).mono ?_
      · rintro w3 ⟨w1, w2, hg, hR, hk2, rfl⟩
        exact ((Kp.refl [w.heap.size + 1 + 1 + 1 + 1 + 1] w2).setCell (.inl (by simp)) _).row (by simp) (hk2.row (by simp; omega) (hg.choose_spec.choose_spec.2.2.2.2.2.row (by simp; omega) B.2.2.2.2.2.2.1))
      · rintro w3 ⟨w1, w2, hg, hR, hk2, rfl⟩
        rw [heap_setCell_same _ _ _ _ _ _ (hk2.row (by simp; omega) (hg.choose_spec.choose_spec.2.2.2.2.2.row (by simp; omega) B.2.2.2.2.2.1))]; rfl
      · rintro e w' ⟨rfl, w3, ⟨w1, w2, hg, hR, hk2, rfl⟩, hk4⟩
        have hk3 : Kp [w.heap.size + 1 + 1 + 1 + 1 + 1, w.heap.size + 1 + 1 + 1 + 1 + 1 + 1] w2 w' := (((Kp.refl [w.heap.size + 1 + 1 + 1 + 1 + 1] w2).setCell (.inl (by simp)) _).mono (by simp)).trans hk4
        have hB1 : Kp [y.B] w w1 := kp_then B.2.2.2.2.2.2.2 hg.choose_spec.choose_spec.2.2.2.2.2
        obtain ⟨y', hy', hft, hqs, htb⟩ := hyW.made hg
        have hy2 := hy'.root (t := tn) ht (A' := (s.A tn).set kn ((s.m : Int) + 1)) (L' := s.L tn) (by rw [hqs]; exact hR) (by rw [hqs]; exact hk2)
        have hlow : ∀ b, Foot p { s with m := s.m + 1, R := up s.R (s.m + 1) (List.replicate rn 0), D := up s.D (s.m + 1) (List.replicate f 0) } y' b → b < w.heap.size ∨ w.heap.size + 7 ≤ b := fun b hb => by
          rcases hft b hb with q | ⟨q, _⟩
          · exact .inl (hy.lt q)
          · simp [World.size_alloc] at q
            exact .inr q
        have hy3 := hy2.keep hk3 (by
          intro b hb hfoot
          have := hlow b hfoot
          simp at hb
          omega)
        have e1 : (((rn : Int) + f - rn).toNat) = f := by omega
        have es : setS (newO s rn z) tn kn ((s.m : Int) + 1) = { s with m := s.m + 1, R := up s.R (s.m + 1) (List.replicate rn 0), D := up s.D (s.m + 1) (List.replicate f 0), A := up s.A tn ((s.A tn).set kn ((s.m : Int) + 1)), L := up s.L tn (s.L tn) } := by
          rw [up_id, hfz]
          simp [setS, newO, e1]
        rw [es]
        have hsz : w1.heap.size ≤ w'.heap.size := Nat.le_trans hk2.size hk3.size
        refine ⟨rfl, ⟨y', hy3, fun b hb => ?_⟩, Fr.of (S := [y.B, y.qs tn]) ((hB1.mono (T := [y.B, y.qs tn, w.heap.size + 1 + 1 + 1 + 1 + 1, w.heap.size + 1 + 1 + 1 + 1 + 1 + 1]) (by simp +contextual)).trans ((hk2.mono (by simp +contextual)).trans (hk3.mono (by simp +contextual))) |>.mono fun b hb hlt => ?_) fun b hb => ?_⟩
        · rcases hft b hb with q | ⟨q1, q2⟩
          · exact .inl (hf b q)
          · exact .inr ⟨Nat.le_trans B.2.2.2.2.2.2.2.size q1, by omega⟩
        · simp at hb ⊢
          omega
        · simp at hb
          rcases hb with rfl | rfl
          · exact hf _ (.inr (.inr (.inl rfl)))
          · exact hf _ (.inr (.inr (.inr (.inl ⟨tn, ht, rfl⟩))))
  · refine err 2 (by decide) (by rw [allocE, hb]; rfl) ?_
    exact th_Alloc w (some ⟨p, 0, none⟩) t d r z 2 (th_one hy hw hb)


end Go.Proofs.YtmbhhadghiojeaaGreat

namespace Go.Proofs.YtmbhhadghiojeaaGreat
set_option linter.unusedVariables false
set_option linter.unusedSimpArgs false
open Go.RowKit


def fresh (nt ns nl : Nat) : Gs := ⟨nt, fun _ => List.replicate ns 0, fun _ => [], 0, fun _ => List.replicate nl 0, fun _ => []⟩
theorem wf_fresh {nt ns nl M : Nat} (h1 : 1 ≤ nt) (h2 : nt ≤ 64) (h3 : nl ≤ 8) : Wf (fresh nt ns nl) M := by
  refine ⟨h1, h2, Nat.zero_le _, by simpa [fresh] using h3, fun n a b => ?_, fun t _ x hx => ?_, fun t _ x hx => ?_, fun n _ x hx => ?_⟩
  · have : n ≤ 0 := b
    omega
  · have : x ∈ List.replicate ns (0 : Int) := hx
    rw [List.mem_replicate] at this
    rw [this.2]
    exact ⟨Int.le_refl _, by simp [fresh]⟩
  · have : x ∈ ([] : List Int) := hx
    simp at this
  · have : x ∈ List.replicate nl (0 : Int) := hx
    rw [List.mem_replicate] at this
    rw [this.2]
    exact ⟨Int.le_refl _, by simp [fresh]⟩

theorem Nw.gy {w0 w : World} {p B g0 nl ns nt : Nat} {v : Value} {us : List Nat} (h : Nw w0 p B g0 nl ns v us w) (hu : us.length = nt) (h1 : 1 ≤ nt) : ∃ y, Gy w p (fresh nt ns nl) y ∧ ∀ b, Foot p (fresh nt ns nl) y b → w0.heap.size ≤ b := by
  rcases h.own.2 with ⟨rfl, h0⟩ | ⟨g, c, cur, rfl, hge, hg, r1, r2, r3, r4⟩
  · omega
  · refine ⟨⟨g, c, B, fun i => us.getD i 0, fun _ => g0, fun _ => nl, fun _ => 0, fun _ => 0⟩, ?_, ?_⟩
    · refine ⟨?_, ⟨cur, hg, fun i hi => ?_⟩, fun i hi => h.hq i (by rw [hu]; exact hi), fun n hn => h.hg, fun n a b => ?_, h.hm.congr fun n a b => ?_, fun i j hi hj e => h.nd i j (by rw [hu]; exact hi) (by rw [hu]; exact hj) e, fun n k hn hk _ => ?_, fun n k a b => ?_⟩
      · rw [h.hp]
        simp [fresh, hu]
      · have hi' : i < us.length := by rw [hu]; exact hi
        rw [Nat.mul_one] at r4
        have := ptrs_get us i hi'
        rw [← r4, List.getElem?_take_of_lt hi'] at this
        simpa using this
      · have : n ≤ 0 := b
        omega
      · have : n ≤ 0 := b
        omega
      · have : n ≤ 0 := hn
        have : k ≤ 0 := hk
        omega
      · have : n ≤ 0 := b
        omega
    · rintro b (rfl | rfl | rfl | ⟨i, hi, rfl⟩ | ⟨n, hn, rfl⟩ | ⟨n, a, hn, rfl⟩)
      · exact h.lo.1
      · exact hge
      · exact h.lo.2.1
      · exact h.lo.2.2.2 i (by rw [hu]; exact hi)
      · exact h.lo.2.2.1
      · have : n ≤ 0 := hn
        omega


def newBad (h k l : Int) : Prop := h < 1 ∨ 64 < h ∨ l < 0 ∨ 8 < l ∨ k < 1 ∨ 8 < k
theorem g_New_no (w : World) (h k l : Int) (hb : newBad h k l) : Calls Tryz.prog 6 #[.int .i64 h, .int .i64 k, .int .i64 l] w (Fail w (.tuple #[.pointer none, .int .i64 2])) := by
  have B := bx_New w (h) (k) (l)
  refine no_New w h k l 2 ?_
  by_cases h1 : h < 1 ∨ 64 < h ∨ l < 0 ∨ 8 < l
  · exact new1_bad _ _ _ _ _ h l k (cell_of_row B.1 0) (cell_of_row B.2.2.1 0) h1
  · obtain ⟨nt, rfl⟩ : ∃ n : Nat, h = n := ⟨h.toNat, by omega⟩
    obtain ⟨nl, rfl⟩ : ∃ n : Nat, l = n := ⟨l.toNat, by omega⟩
    exact new1_slots _ _ _ _ _ nt nl k (cell_of_row B.1 0) (cell_of_row B.2.2.1 0) (cell_of_row B.2.1 0) (by omega) (by omega) (by omega) (by unfold newBad at hb; omega)

/-- A graph has been made. -/
def NewIs (w : World) (nt ns nl : Nat) (e : Ending) (w' : World) : Prop :=
  ∃ p, e = .returned (.tuple #[.pointer (some ⟨p, 0, none⟩), .int .i64 0]) ∧ Gx (fun b => w.heap.size ≤ b ∧ b < w'.heap.size) w' p (fresh nt ns nl) ∧ Kp [] w w'
theorem g_New (w : World) (nt ns nl : Nat) (h1 : 1 ≤ nt) (h2 : nt ≤ 64) (h3 : nl ≤ 8) (h4 : 1 ≤ ns) (h5 : ns ≤ 8) : Calls Tryz.prog 6 #[.int .i64 nt, .int .i64 ns, .int .i64 nl] w (NewIs w nt ns nl) := by
  have B := bx_New w nt ns nl
  have hc := new1_ok _ _ _ _ _ nt nl ns (cell_of_row B.1 0) (cell_of_row B.2.2.1 0) (cell_of_row B.2.1 0) _ B.2.2.2.1 h1 h2 h3 h4 h5
  have hWs : ((((((w.alloc (.cells #[.int .i64 nt] 3)).alloc (.cells #[.int .i64 ns] 3)).alloc (.cells #[.int .i64 nl] 3)).alloc (.cells #[.pointer none] 24)).alloc (.cells #[.int .i64 0] 25))).heap.size = w.heap.size + 5 := by simp [World.size_alloc]
  generalize hW : (((((w.alloc (.cells #[.int .i64 nt] 3)).alloc (.cells #[.int .i64 ns] 3)).alloc (.cells #[.int .i64 nl] 3)).alloc (.cells #[.pointer none] 24)).alloc (.cells #[.int .i64 0] 25)) = W at hc hWs B
  refine (ok_New w nt ns nl (fun w3 => ∃ w2 B g0 v us, us.length = nt ∧ Nw W (W.heap.size + 1 + 1) B g0 nl ns v us w2 ∧ w3 = w2.setCell ⟨w.heap.size + 1 + 1 + 1, 0, none⟩ (.pointer (some ⟨W.heap.size + 1 + 1, 0, none⟩))) (some ⟨W.heap.size + 1 + 1, 0, none⟩) (by rw [hW]; exact hc) ?_ ?_).mono ?_
  · rintro w3 ⟨w2, B', g0, v, us, hu, hN, rfl⟩
    exact ((Kp.refl [w.heap.size + 1 + 1 + 1] w2).setCell (.inl (by simp)) _).row (by simp) (hN.kp.row (by simp) B.2.2.2.2.1)
  · rintro w3 ⟨w2, B', g0, v, us, hu, hN, rfl⟩
    rw [heap_setCell_same _ _ _ _ _ _ (hN.kp.row (by simp) B.2.2.2.1)]; rfl
  · rintro e w' ⟨rfl, w3, ⟨w2, B', g0, v, us, hu, hN, rfl⟩, hk4⟩
    have hk3 : Kp [w.heap.size + 1 + 1 + 1, w.heap.size + 1 + 1 + 1 + 1] w2 w' := (((Kp.refl [w.heap.size + 1 + 1 + 1] w2).setCell (.inl (by simp)) _).mono (by simp)).trans hk4
    obtain ⟨y, hy, hf⟩ := hN.gy hu h1
    refine ⟨_, rfl, ⟨y, hy.keep hk3 ?_, fun b hb => ?_⟩, kp_root B.2.2.2.2.2 hN.kp hk3 (by simp <;> omega)⟩
    · intro b hb hfoot
      have := hf b hfoot
      simp at hb
      omega
    · have h1 := hf b hb
      have h2 := hy.lt hb
      have := hk3.size
      omega

end Go.Proofs.YtmbhhadghiojeaaGreat
