/- Four parts, apart; slots stay as many; the law GraphLooks where it looks at nothing. Conditions: as each theorem states them. -/
import Derived.Test.YtmbhhadghiojeaaGreatGl7
import Derived.Test.YtmbhhadghiojeaaGreatGl8
import Derived.Test.YtmbhhadghiojeaaGreatDgW
namespace Go.Proofs.YtmbhhadghiojeaaGreat
set_option linter.unusedVariables false
set_option linter.unusedSimpArgs false
open Go.RowKit

/-- What lies in F alone, since w0. -/
structure Pt (w0 wr : World) (F : Nat → Prop) (Q : World → Prop) : Prop where
  q : Q wr
  k : ∀ S w2, Kp S wr w2 → (∀ b ∈ S, ¬ F b) → Q w2
  n : ∀ b, F b → w0.heap.size ≤ b ∧ b < wr.heap.size
theorem Pt.keep {w0 wr w2 : World} {F G : Nat → Prop} {Q : World → Prop} (h : Pt w0 wr F Q) (hf : Fr G wr w2) (hd : ∀ b, F b → ¬ G b) : Pt w0 w2 F Q := by
  obtain ⟨S, hk, hS⟩ := hf.kp
  refine ⟨h.k S w2 hk fun b hb hF => hd b hF (hS b hb), fun S' w3 k3 hS' => h.k (S ++ S') w3 ((hk.mono fun x hx _ => List.mem_append_left _ hx).trans (k3.mono fun x hx _ => List.mem_append_right _ hx)) fun b hb => ?_, fun b hb => ⟨(h.n b hb).1, Nat.lt_of_lt_of_le (h.n b hb).2 hf.size⟩⟩
  rcases List.mem_append.1 hb with hb | hb
  · exact fun hF => hd b hF (hS b hb)
  · exact hS' b hb
def QG (F : Nat → Prop) (p : Nat) (s : Gs) (w : World) : Prop := Gx F w p s
def QD (F : Nat → Prop) (q : Nat) (s : Gs) (w : World) : Prop := Dx F w q s
def no : Nat → Prop := fun _ => False
def tt : World → Prop := fun _ => True
theorem pt_g {w0 wr : World} {F : Nat → Prop} {p : Nat} {s : Gs} (h : Gx F wr p s) (hn : ∀ b, F b → w0.heap.size ≤ b ∧ b < wr.heap.size) : Pt w0 wr F (QG F p s) := by
  refine ⟨h, fun S w2 k hS => ?_, hn⟩
  obtain ⟨y, hy, hf⟩ := h
  exact ⟨y, hy.keep k fun b hb ft => hS b hb (hf b ft), hf⟩
theorem pt_d {w0 wr : World} {F : Nat → Prop} {q : Nat} {s : Gs} (h : Dx F wr q s) (hn : ∀ b, F b → w0.heap.size ≤ b ∧ b < wr.heap.size) : Pt w0 wr F (QD F q s) := by
  refine ⟨h, fun S w2 k hS => ?_, hn⟩
  obtain ⟨y, hy, hf⟩ := h
  exact ⟨y, hy.keep k fun b hb ft => hS b hb (hf b ft), hf⟩
theorem pt_no (w0 wr : World) : Pt w0 wr no tt := ⟨trivial, fun _ _ _ _ => trivial, fun b hb => hb.elim⟩

/-- Four parts, apart. -/
structure P4 (w0 : World) (F1 F2 F3 F4 : Nat → Prop) (Q1 Q2 Q3 Q4 : World → Prop) (wr : World) : Prop where
  p1 : Pt w0 wr F1 Q1
  p2 : Pt w0 wr F2 Q2
  p3 : Pt w0 wr F3 Q3
  p4 : Pt w0 wr F4 Q4
  d12 : ∀ b, F1 b → ¬ F2 b
  d13 : ∀ b, F1 b → ¬ F3 b
  d14 : ∀ b, F1 b → ¬ F4 b
  d23 : ∀ b, F2 b → ¬ F3 b
  d24 : ∀ b, F2 b → ¬ F4 b
  d34 : ∀ b, F3 b → ¬ F4 b
  kp : Kp [] w0 wr
section
variable {w0 wr w2 : World} {F1 F2 F3 F4 : Nat → Prop} {Q1 Q2 Q3 Q4 Q' : World → Prop}
theorem P4.rot (h : P4 w0 F1 F2 F3 F4 Q1 Q2 Q3 Q4 wr) : P4 w0 F2 F3 F4 F1 Q2 Q3 Q4 Q1 wr :=
  ⟨h.p2, h.p3, h.p4, h.p1, h.d23, h.d24, fun b h2 h1 => h.d12 b h1 h2, h.d34, fun b h3 h1 => h.d13 b h1 h3, fun b h4 h1 => h.d14 b h1 h4, h.kp⟩
theorem P4.act (h : P4 w0 F1 F2 F3 F4 Q1 Q2 Q3 Q4 wr) (hf : Fr F1 wr w2) (hp : (∀ b, nw F1 wr w2 b → w0.heap.size ≤ b ∧ b < w2.heap.size) → Pt w0 w2 (nw F1 wr w2) Q') : P4 w0 (nw F1 wr w2) F2 F3 F4 Q' Q2 Q3 Q4 w2 := by
  have hn : ∀ b, nw F1 wr w2 b → w0.heap.size ≤ b ∧ b < w2.heap.size := fun b hb => by
    rcases hb with hb | hb
    · have := h.p1.n b hb
      exact ⟨this.1, Nat.lt_of_lt_of_le this.2 hf.size⟩
    · exact ⟨Nat.le_trans h.kp.size hb.1, hb.2⟩
  have ap : ∀ {F : Nat → Prop} {Q : World → Prop}, Pt w0 wr F Q → (∀ b, F1 b → ¬ F b) → ∀ b, nw F1 wr w2 b → ¬ F b := fun hp hd b hb hF => by
    rcases hb with hb | hb
    · exact hd b hb hF
    · have := (hp.n b hF).2; omega
  obtain ⟨S, hk, hS⟩ := hf.kp
  exact ⟨hp hn, h.p2.keep hf fun b a c => h.d12 b c a, h.p3.keep hf fun b a c => h.d13 b c a, h.p4.keep hf fun b a c => h.d14 b c a, ap h.p2 h.d12, ap h.p3 h.d13, ap h.p4 h.d14, h.d23, h.d24, h.d34,
    (kp_then h.kp hk).mono fun x hx hlt => by have := (h.p1.n x (hS x hx)).1; omega⟩
theorem P4.act_g {p : Nat} {s s' : Gs} {r : Value} {e : Ending} (h : P4 w0 F1 F2 F3 F4 (QG F1 p s) Q2 Q3 Q4 wr) (hc : Ended F1 wr p r s' e w2) : e = .returned r ∧ P4 w0 (nw F1 wr w2) F2 F3 F4 (QG (nw F1 wr w2) p s') Q2 Q3 Q4 w2 :=
  ⟨hc.1, h.act hc.2.2 fun hn => pt_g hc.2.1 hn⟩
theorem P4.act_d {q : Nat} {s s' : Gs} (h : P4 w0 F1 F2 F3 F4 (QD F1 q s) Q2 Q3 Q4 wr) (hc : Left F1 wr q s' w2) : P4 w0 (nw F1 wr w2) F2 F3 F4 (QD (nw F1 wr w2) q s') Q2 Q3 Q4 w2 :=
  h.act hc.2 fun hn => pt_d hc.1 hn
theorem P4.new_g {p : Nat} {s : Gs} (h : P4 w0 no F2 F3 F4 tt Q2 Q3 Q4 wr) (hg : Gx (fun b => wr.heap.size ≤ b ∧ b < w2.heap.size) w2 p s) (hk : Kp [] wr w2) : P4 w0 (nw no wr w2) F2 F3 F4 (QG (nw no wr w2) p s) Q2 Q3 Q4 w2 :=
  h.act (Fr.of hk (by simp)) fun hn => pt_g (hg.mono fun b hb => .inr hb) hn
theorem P4.new_d {q : Nat} {s : Gs} (h : P4 w0 no F2 F3 F4 tt Q2 Q3 Q4 wr) (hg : Dx (fun b => wr.heap.size ≤ b ∧ b < w2.heap.size) w2 q s) (hk : Kp [] wr w2) : P4 w0 (nw no wr w2) F2 F3 F4 (QD (nw no wr w2) q s) Q2 Q3 Q4 w2 :=
  h.act (Fr.of hk (by simp)) fun hn => pt_d (hg.mono fun b hb => .inr hb) hn
theorem P4.on (h : P4 w0 F1 F2 F3 F4 Q1 Q2 Q3 Q4 wr) (k : Kp [] wr w2) : P4 w0 F1 F2 F3 F4 Q1 Q2 Q3 Q4 w2 := by
  have hf : Fr no wr w2 := Fr.of k (by simp)
  exact ⟨h.p1.keep hf fun b _ c => c, h.p2.keep hf fun b _ c => c, h.p3.keep hf fun b _ c => c, h.p4.keep hf fun b _ c => c, h.d12, h.d13, h.d14, h.d23, h.d24, h.d34, h.kp.trans k⟩
theorem p4_start (w : World) : P4 w no no no no tt tt tt tt w := ⟨pt_no _ _, pt_no _ _, pt_no _ _, pt_no _ _, fun _ h => h.elim, fun _ h => h.elim, fun _ h => h.elim, fun _ h => h.elim, fun _ h => h.elim, fun _ h => h.elim, Kp.refl _ _⟩
end

/-! ### slots stay as many -/
theorem up_len (f : Nat → List Int) (k : Nat) (x : List Int) (h : x.length = (f k).length) (i : Nat) : (up f k x i).length = (f i).length := by
  by_cases e : i = k
  · subst e; rw [up_same, h]
  · rw [up_other _ _ e]
def Ln (s s' : Gs) : Prop := s'.nt = s.nt ∧ ∀ i, (s'.A i).length = (s.A i).length
theorem ln_r (s : Gs) : Ln s s := ⟨rfl, fun _ => rfl⟩
theorem sta_len {e : Int} {s' s : Gs} (h : Ln s s') : Ln s (sta e s' s) := by
  unfold sta
  split
  · exact h
  · exact ln_r s
theorem setS_len (s0 s : Gs) (h : Ln s s0) (t d x : Int) : Ln s (setS s0 t d x) :=
  ⟨h.1, fun i => (up_len _ _ _ (List.length_set ..) i).trans (h.2 i)⟩
theorem do_len (s : Gs) (x : Ac) : Ln s (doS s x) := by
  have r : Ln s s := ln_r s
  have r0 : Ln s (newO s x.b x.c) := ⟨rfl, fun _ => rfl⟩
  have r1 : ∀ n i y, Ln s (setR s n i y) := fun _ _ _ => ⟨rfl, fun _ => rfl⟩
  have r2 : ∀ n i y, Ln s (setD s n i y) := fun _ _ _ => ⟨rfl, fun _ => rfl⟩
  unfold doS
  split
  · exact sta_len (setS_len (newO s x.b x.c) s r0 _ _ _)
  split
  · exact sta_len (setS_len s s r _ _ _)
  split
  · exact sta_len (r1 _ _ _)
  split
  · exact r
  split
  · exact sta_len (r2 _ _ _)
  split
  · exact sta_len (setS_len s s r _ _ _)
  split
  · exact sta_len (r1 _ _ _)
  split
  · exact sta_len (setS_len s s r _ _ _)
  split
  · exact sta_len (setS_len s s r _ _ _)
  split
  · unfold gpushS
    split
    · exact r
    · exact ⟨rfl, fun i => up_len _ _ _ rfl i⟩
  split
  · unfold gpopS
    split
    · exact r
    · refine ⟨rfl, fun i => up_len _ _ _ ?_ i⟩
      unfold popA
      split
      · rfl
      · split
        · rfl
        · exact List.length_set ..
  · exact r
/-- Each thread has a slot. -/
def Sl (s : Gs) : Prop := ∀ i, i < s.nt → 1 ≤ (s.A i).length
theorem sl_do {s : Gs} (h : Sl s) (x : Ac) : Sl (doS s x) := fun i hi => by
  have := do_len s x
  rw [this.1] at hi
  rw [this.2]; exact h i hi
theorem sl_fresh {nt ns nl : Nat} (h : 1 ≤ ns) : Sl (fresh nt ns nl) := fun i hi => by
  show 1 ≤ (List.replicate ns (0 : Int)).length
  rw [List.length_replicate]; exact h

set_option maxRecDepth 100000 in
theorem looks_skip (w : World) (h k l : Int) (ao bo : Option Addr) (n cap n' cap' : Nat) (hn : 100 < n ∨ 50 < n' ∨ mayB h k l = false) :
    Calls Tryz.prog 4 #[.int .i64 h, .int .i64 k, .int .i64 l, .slice ao n cap, .slice bo n' cap'] w fun e w' => e = .returned (.bool true) ∧ Kp [] w w' := by
  have hwk := wakes_any w
  have hmay := may_any w h k l
  by_cases h1 : 100 < n
  · clear hn hmay
    go_enter Tryz.func4, Tryz.ntmps4
    go_wp2_with ((with_reducible refine hwk.mono ?_); rintro e w1 ⟨rfl, hb⟩; have H := Lib.hid hb; clear hb)
    go_ret
    exact ⟨rfl, H.out⟩
  · have h1' : n ≤ 100 := by omega
    by_cases h2 : 50 < n'
    · clear hn hmay
      go_enter Tryz.func4, Tryz.ntmps4
      go_wp2_with ((with_reducible refine hwk.mono ?_); rintro e w1 ⟨rfl, hb⟩; have H := Lib.hid hb; clear hb)
      go_ret
      exact ⟨rfl, H.out⟩
    · have h2' : n' ≤ 50 := by omega
      rw [(hn.resolve_left h1).resolve_left h2] at hmay
      clear hn
      go_enter Tryz.func4, Tryz.ntmps4
      go_wp2_with fail
      refine hmay.mono ?_
      rintro e w2 ⟨rfl, rfl⟩
      go_wp2_with ((with_reducible refine hwk.mono ?_); rintro e w1 ⟨rfl, hb⟩; have H := Lib.hid hb; clear hb)
      go_ret
      exact ⟨rfl, H.out⟩

end Go.Proofs.YtmbhhadghiojeaaGreat
