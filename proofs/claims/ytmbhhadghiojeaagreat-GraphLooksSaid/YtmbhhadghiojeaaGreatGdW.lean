/- 'wakes' of layer 10. Conditions: none. -/
import Derived.Test.YtmbhhadghiojeaaGreatGdG
import Derived.Test.YtmbhhadghiojeaaGreatGrR
namespace Go.Proofs.YtmbhhadghiojeaaGreat
set_option linter.unusedVariables false
set_option linter.unusedSimpArgs false
open Go.RowKit

/-- A graph of the call's own. -/
def OwnG (w : World) (p : Nat) (s : Gs) (w' : World) : Prop := ∃ F, Gx F w' p s ∧ (∀ b, F b → w.heap.size ≤ b) ∧ Kp [] w w'
theorem OwnG.on {w w' w2 : World} {p : Nat} {s : Gs} (h : OwnG w p s w') (k : Kp [] w' w2) : OwnG w p s w2 := by
  obtain ⟨F, hx, hF, hk⟩ := h
  exact ⟨F, hx.on k, hF, hk.trans k⟩
theorem OwnG.new {w w' : World} {nt ns nl : Nat} {e : Ending} (h : NewIs w nt ns nl e w') : ∃ p, e = .returned (.tuple #[.pointer (some ⟨p, 0, none⟩), .int .i64 0]) ∧ OwnG w p (fresh nt ns nl) w' := by
  obtain ⟨p, he, hx, hk⟩ := h
  exact ⟨p, he, _, hx, fun b hb => hb.1, hk⟩
theorem OwnG.turn {w w' w2 : World} {p : Nat} {s2 : Gs} {F : Nat → Prop} {r : Value} {e : Ending} (hF : ∀ b, F b → w.heap.size ≤ b) (hk : Kp [] w w') (h : Ended F w' p r s2 e w2) : e = .returned r ∧ OwnG w p s2 w2 := by
  obtain ⟨he, hx, hf⟩ := h
  refine ⟨he, _, hx, fun b hb => ?_, ⟨hf.os.trans hk.os, hf.tape.trans hk.tape, hf.output.trans hk.output, Nat.le_trans hk.size hf.size, fun j hj hn => (hf.block j (Nat.lt_of_lt_of_le hj hk.size) fun hb => by have := hF j hb; omega).trans (hk.block j hj (by simp))⟩⟩
  rcases hb with hb | ⟨hb, _⟩
  · exact hF b hb
  · exact Nat.le_trans hk.size hb
theorem OwnG.act {w w' : World} {p : Nat} {s s2 : Gs} {r : Value} {f : FuncId} {args : Array Value} (h : OwnG w p s w') (hc : ∀ F, Gx F w' p s → Calls Tryz.prog f args w' (Ended F w' p r s2)) :
    Calls Tryz.prog f args w' fun e w2 => e = .returned r ∧ OwnG w p s2 w2 := by
  obtain ⟨F, hx, hF, hk⟩ := h
  exact (hc F hx).mono fun _ _ h => OwnG.turn hF hk h

def k1 : Gs := doS (fresh 1 2 1) ⟨0, 0, 0, 1, 1, 0⟩
def k2 : Gs := doS k1 ⟨0, 0, 1, 0, 1, 0⟩
def k3 : Gs := doS k2 ⟨2, 0, 0, 0, 1, 0⟩
def k4 : Gs := doS k3 ⟨8, 0, 1, 0, 0, 0⟩
def k5 : Gs := doS k4 ⟨1, 0, 1, 0, 0, 0⟩
def k6 : Gs := doS k5 ⟨8, 0, 0, 0, 0, 0⟩
theorem wf0 : Wf (fresh 1 2 1) 0 := wf_fresh (by omega) (by omega) (by omega)
theorem wf1 : Wf k1 1 := wf_do wf0 _
theorem wf2 : Wf k2 2 := wf_do wf1 _
theorem wf3 : Wf k3 3 := wf_do wf2 _
theorem wf4 : Wf k4 4 := wf_do wf3 _
theorem wf5 : Wf k5 5 := wf_do wf4 _
theorem wf6 : Wf k6 6 := wf_do wf5 _
theorem reach_k6 {xs : List Int} (h : RchL k6 xs) : xs = [2] := by
  have hA : k6.A 0 = [0, 2] := by decide
  have hL : k6.L 0 = [] := by decide
  have h0 : k6.R 0 = [0] := by decide
  have h2 : k6.R 2 = [] := by decide
  have hnt : k6.nt = 1 := by decide
  have hm : ∀ x, Rch k6 x ↔ x = 2 := by
    intro x
    constructor
    · intro r
      induction r with
      | glob hx hn => rw [h0] at hx; simp at hx; exact absurd hx hn
      | slot ht hx hn =>
        rw [hnt] at ht
        obtain rfl : _ = 0 := Nat.lt_one_iff.1 ht
        rw [hA] at hx
        simp at hx
        exact hx.resolve_left hn
      | stack ht hx hn =>
        rw [hnt] at ht
        obtain rfl : _ = 0 := Nat.lt_one_iff.1 ht
        rw [hL] at hx
        simp at hx
      | @step n x r hx hn ih =>
        have : n = 2 := by omega
        subst this
        rw [h2] at hx
        simp at hx
    · rintro rfl
      exact .slot (t := 0) (by rw [hnt]; omega) (by rw [hA]; simp) (by decide)
  obtain ⟨hp, hx⟩ := h
  have hall : ∀ x ∈ xs, x = 2 := fun x hxx => (hm x).1 ((hx x).1 hxx)
  have h2in : (2 : Int) ∈ xs := (hx 2).2 ((hm 2).2 rfl)
  match xs, hp, hall, h2in with
  | [], _, _, h => simp at h
  | [a], _, ha, _ => rw [ha a (by simp)]
  | a :: b :: r, hp, ha, _ =>
    have e1 := ha a (by simp)
    have e2 := ha b (by simp)
    have := (List.pairwise_cons.1 hp).1 b (by simp)
    omega

set_option maxRecDepth 100000 in
theorem wakes_any (w : World) : Calls Tryz.prog 5 #[] w fun e w' => e = .returned (.bool true) ∧ Kp [] w w' := by
  have hnew := g_New w 1 2 1 (by omega) (by omega) (by omega) (by omega) (by omega)
  go_enter Tryz.func5, Tryz.ntmps5
  go_wp2_with fail
  refine hnew.mono ?_
  intro e w1 hn
  obtain ⟨p, rfl, o0⟩ := OwnG.new hn
  have H0 := Lib.hid o0
  clear hnew hn o0
  have c1 : Calls Tryz.prog 15 #[.pointer (some ⟨p, 0, none⟩), .int .i64 0, .int .i64 0, .int .i64 1, .int .i64 1] w1 fun e w2 => e = .returned (.tuple #[.int .i64 1, .int .i64 0]) ∧ OwnG w p k1 w2 :=
    H0.out.act fun F hx => g_Alloc hx wf0 (by omega) 0 0 1 1
  go_wp2_with fail
  refine c1.mono ?_
  rintro e w2 ⟨rfl, o1⟩
  have H1 := Lib.hid o1
  clear c1 o1 H0
  have c2 : Calls Tryz.prog 15 #[.pointer (some ⟨p, 0, none⟩), .int .i64 0, .int .i64 1, .int .i64 0, .int .i64 1] w2 fun e w3 => e = .returned (.tuple #[.int .i64 2, .int .i64 0]) ∧ OwnG w p k2 w3 :=
    H1.out.act fun F hx => g_Alloc hx wf1 (by omega) 0 1 0 1
  go_wp2_with fail
  refine c2.mono ?_
  rintro e w3 ⟨rfl, o2⟩
  have H2 := Lib.hid o2
  clear c2 o2 H1
  have c3 : Calls Tryz.prog 16 #[.pointer (some ⟨p, 0, none⟩), .int .i64 0, .int .i64 0, .int .i64 0, .int .i64 1] w3 fun e w4 => e = .returned (.int .i64 0) ∧ OwnG w p k3 w4 :=
    H2.out.act fun F hx => g_Store hx wf2 (by omega) 0 0 0 1
  go_wp2_with fail
  refine c3.mono ?_
  rintro e w4 ⟨rfl, o3⟩
  have H3 := Lib.hid o3
  clear c3 o3 H2
  have c4 : Calls Tryz.prog 17 #[.pointer (some ⟨p, 0, none⟩), .int .i64 0, .int .i64 1] w4 fun e w5 => e = .returned (.int .i64 0) ∧ OwnG w p k4 w5 :=
    H3.out.act fun F hx => g_Clear hx wf3 (by omega) 0 1
  go_wp2_with fail
  refine c4.mono ?_
  rintro e w5 ⟨rfl, o4⟩
  have H4 := Lib.hid o4
  clear c4 o4 H3
  have c5 : Calls Tryz.prog 18 #[.pointer (some ⟨p, 0, none⟩), .int .i64 0, .int .i64 1, .int .i64 0, .int .i64 0] w5 fun e w6 => e = .returned (.tuple #[.int .i64 2, .int .i64 0]) ∧ OwnG w p k5 w6 :=
    H4.out.act fun F hx => g_Load hx wf4 (by omega) 0 1 0 0
  go_wp2_with fail
  refine c5.mono ?_
  rintro e w6 ⟨rfl, o5⟩
  have H5 := Lib.hid o5
  clear c5 o5 H4
  have c6 : Calls Tryz.prog 17 #[.pointer (some ⟨p, 0, none⟩), .int .i64 0, .int .i64 0] w6 fun e w7 => e = .returned (.int .i64 0) ∧ OwnG w p k6 w7 :=
    H5.out.act fun F hx => g_Clear hx wf5 (by omega) 0 0
  go_wp2_with fail
  refine c6.mono ?_
  rintro e w7 ⟨rfl, o6⟩
  have c7 := reach_any o6.choose w7 p k6 6 o6.choose_spec.1 wf6 (by omega)
  have H6 := Lib.hid o6
  clear c6 o6 H5
  go_wp2_with fail
  refine c7.mono ?_
  rintro e w8 ⟨v, xs, rfl, hr, hrow, hk8⟩
  obtain rfl := reach_k6 hr
  obtain ⟨g, c, rfl, _⟩ := hrow.at (by simp)
  have hc : w8.cell? ⟨g, 0, none⟩ = some (.int .i64 2) := hrow.cell (i := 0) (by decide)
  have HE := Lib.hid (H6.out.choose_spec.2.2.trans hk8)
  clear c7 hr hrow hk8 H6
  simp only [List.length_cons, List.length_nil]
  go_wp2_with fail
  go_ret
  exact ⟨rfl, HE.out⟩

end Go.Proofs.YtmbhhadghiojeaaGreat
