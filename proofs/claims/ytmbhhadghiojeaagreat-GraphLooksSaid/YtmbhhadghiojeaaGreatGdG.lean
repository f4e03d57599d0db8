/- Does, on a graph that lies somewhere, and on none. Conditions: as each theorem states them. -/
import Derived.Test.YtmbhhadghiojeaaGreatGdA
import Derived.Test.YtmbhhadghiojeaaGreatGdP
namespace Go.Proofs.YtmbhhadghiojeaaGreat
set_option linter.unusedVariables false
set_option linter.unusedSimpArgs false
open Go.RowKit

theorem Ended.back {F : Nat → Prop} {w wa w' : World} {p : Nat} {s : Gs} (k : Kp [] w wa) (h : Gx (nw F wa w') w' p s ∧ Fr F wa w') : Gx (nw F w w') w' p s ∧ Fr F w w' := by
  refine ⟨h.1.mono fun b hb => ?_, ⟨h.2.os.trans k.os, h.2.tape.trans k.tape, h.2.output.trans k.output, Nat.le_trans k.size h.2.size, fun j hj hn => (h.2.block j (Nat.lt_of_lt_of_le hj k.size) hn).trans (k.block j hj (by simp))⟩⟩
  rcases hb with hb | ⟨h1, h2⟩
  · exact .inl hb
  · exact .inr ⟨Nat.le_trans k.size h1, h2⟩

theorem does_any {F : Nat → Prop} {w : World} {p : Nat} {s : Gs} {M : Nat} (hx : Gx F w p s) (hw : Wf s M) (hM : M ≤ 10000) (x : Ac) (hd0 : 0 ≤ x.d) :
    Calls Tryz.prog 9 #[.pointer (some ⟨p, 0, none⟩), acV x] w (Ended F w p (.tuple #[.int .u64 (doV s x), .int .i64 (doE s x)]) (doS s x)) := by
  obtain ⟨d, t, a, b, c, v⟩ := x
  have hd0 : 0 ≤ d := hd0
  have ka : Kp [] w (w.alloc (.cells #[.int .u8 d, .int .i64 t, .int .i64 a, .int .i64 b, .int .i64 c, .int .u64 v] 35)) := (Kp.refl _ _).alloc _
  have hc : d = 0 ∨ d = 1 ∨ d = 2 ∨ d = 3 ∨ d = 4 ∨ d = 5 ∨ d = 6 ∨ d = 7 ∨ d = 8 ∨ d = 9 ∨ d = 10 ∨ 11 ≤ d := by omega
  rcases hc with rfl | rfl | rfl | rfl | rfl | rfl | rfl | rfl | rfl | rfl | rfl | hd
  · -- Alloc
    have hv : 0 ≤ val (allocE s t a b c) ((s.m : Int) + 1) ∧ val (allocE s t a b c) ((s.m : Int) + 1) ≤ 1000000 := doV_in hw hM ⟨0, t, a, b, c, v⟩ (by show (0 : Int) ≠ 3; omega)
    exact (does_0 w _ 0 t a b c v _ _ _ rfl hv.1 hv.2 (g_Alloc (hx.on ka) hw hM t a b c)).mono fun _ _ h => ⟨h.1, Ended.back ka h.2⟩
  · -- Load
    have hv : 0 ≤ val (loadE s t a b c) ((onR s t b).getD c.toNat 0) ∧ val (loadE s t a b c) ((onR s t b).getD c.toNat 0) ≤ 1000000 := doV_in hw hM ⟨1, t, a, b, c, v⟩ (by show (1 : Int) ≠ 3; omega)
    exact (does_1 w _ 1 t a b c v _ _ _ rfl hv.1 hv.2 (g_Load (hx.on ka) hw hM t a b c)).mono fun _ _ h => ⟨h.1, Ended.back ka h.2⟩
  · -- Store
    exact (does_2 w _ 2 t a b c v _ _ rfl (g_Store (hx.on ka) hw hM t a b c)).mono fun _ _ h => ⟨h.1, Ended.back ka h.2⟩
  · -- Read
    exact (does_3 w _ 3 t a b c v _ _ _ rfl (g_Read (hx.on ka) hw hM t a b)).mono fun _ _ h => ⟨h.1, Ended.back ka h.2⟩
  · -- Write
    exact (does_4 w _ 4 t a b c v _ _ rfl (g_Write (hx.on ka) hw hM t a b v)).mono fun _ _ h => ⟨h.1, Ended.back ka h.2⟩
  · -- Get
    have hv : 0 ≤ val (getE s t a b) ((s.R 0).getD b.toNat 0) ∧ val (getE s t a b) ((s.R 0).getD b.toNat 0) ≤ 1000000 := doV_in hw hM ⟨5, t, a, b, c, v⟩ (by show (5 : Int) ≠ 3; omega)
    exact (does_5 w _ 5 t a b c v _ _ _ rfl hv.1 hv.2 (g_Get (hx.on ka) hw hM t a b)).mono fun _ _ h => ⟨h.1, Ended.back ka h.2⟩
  · -- Put
    exact (does_6 w _ 6 t a b c v _ _ rfl (g_Put (hx.on ka) hw hM t a b)).mono fun _ _ h => ⟨h.1, Ended.back ka h.2⟩
  · -- Move
    exact (does_7 w _ 7 t a b c v _ _ rfl (g_Move (hx.on ka) hw hM t a b)).mono fun _ _ h => ⟨h.1, Ended.back ka h.2⟩
  · -- Clear
    exact (does_8 w _ 8 t a b c v _ _ rfl (g_Clear (hx.on ka) hw hM t a)).mono fun _ _ h => ⟨h.1, Ended.back ka h.2⟩
  · -- Push
    exact (does_9 w _ 9 t a b c v _ _ rfl (g_Push (hx.on ka) hw hM t a)).mono fun _ _ h => ⟨h.1, Ended.back ka h.2⟩
  · -- Pop
    exact (does_10 w _ 10 t a b c v _ _ rfl (g_Pop (hx.on ka) hw hM t a)).mono fun _ _ h => ⟨h.1, Ended.back ka h.2⟩
  · have e0 : doV s ⟨d, t, a, b, c, v⟩ = val (clearE s t a) (ofS s t a) := by
      have : d ≠ 0 ∧ d ≠ 1 ∧ d ≠ 2 ∧ d ≠ 3 ∧ d ≠ 4 ∧ d ≠ 5 ∧ d ≠ 6 ∧ d ≠ 7 ∧ d ≠ 8 ∧ d ≠ 9 ∧ d ≠ 10 := by omega
      simp [doV, this]
    have e1 : doE s ⟨d, t, a, b, c, v⟩ = clearE s t a := by
      have : d ≠ 0 ∧ d ≠ 1 ∧ d ≠ 2 ∧ d ≠ 3 ∧ d ≠ 4 ∧ d ≠ 5 ∧ d ≠ 6 ∧ d ≠ 7 ∧ d ≠ 8 ∧ d ≠ 9 ∧ d ≠ 10 := by omega
      simp [doE, this]
    have e2 : doS s ⟨d, t, a, b, c, v⟩ = s := by
      have : d ≠ 0 ∧ d ≠ 1 ∧ d ≠ 2 ∧ d ≠ 3 ∧ d ≠ 4 ∧ d ≠ 5 ∧ d ≠ 6 ∧ d ≠ 7 ∧ d ≠ 8 ∧ d ≠ 9 ∧ d ≠ 10 := by omega
      simp [doS, this]
    have hv := doV_in hw hM ⟨d, t, a, b, c, v⟩ (by show d ≠ 3; omega)
    rw [e0] at hv ⊢
    rw [e1, e2]
    exact (does_11 w _ d t a b c v _ _ _ hd hv.1 hv.2 (g_Slot (hx.on ka) hw hM t a)).mono fun _ _ h => ⟨h.1, Ended.back ka h.2⟩

theorem does_nil (w : World) (x : Ac) (hd0 : 0 ≤ x.d) :
    Calls Tryz.prog 9 #[.pointer none, acV x] w fun e w' => e = .returned (.tuple #[.int .u64 0, .int .i64 1]) ∧ Kp [] w w' := by
  obtain ⟨d, t, a, b, c, v⟩ := x
  have hd0 : 0 ≤ d := hd0
  have ka : Kp [] w (w.alloc (.cells #[.int .u8 d, .int .i64 t, .int .i64 a, .int .i64 b, .int .i64 c, .int .u64 v] 35)) := (Kp.refl _ _).alloc _
  have hc : d = 0 ∨ d = 1 ∨ d = 2 ∨ d = 3 ∨ d = 4 ∨ d = 5 ∨ d = 6 ∨ d = 7 ∨ d = 8 ∨ d = 9 ∨ d = 10 ∨ 11 ≤ d := by omega
  rcases hc with rfl | rfl | rfl | rfl | rfl | rfl | rfl | rfl | rfl | rfl | rfl | hd
  · exact (does_0 w _ 0 t a b c v 0 1 _ rfl (by decide) (by decide) (th_Alloc _ none t a b c 1 (th_nil _ _ _))).mono fun _ _ h => ⟨h.1, ka.trans h.2⟩
  · exact (does_1 w _ 1 t a b c v 0 1 _ rfl (by decide) (by decide) (th_Load _ none t a b c 1 (th_nil _ _ _))).mono fun _ _ h => ⟨h.1, ka.trans h.2⟩
  · exact (does_2 w _ 2 t a b c v 1 _ rfl (th_Store _ none t a b c 1 (th_nil _ _ _))).mono fun _ _ h => ⟨h.1, ka.trans h.2⟩
  · exact (does_3 w _ 3 t a b c v 0 1 _ rfl (th_Read _ none t a b 1 (th_nil _ _ _))).mono fun _ _ h => ⟨h.1, ka.trans h.2⟩
  · exact (does_4 w _ 4 t a b c v 1 _ rfl (th_Write _ none t a b v 1 (th_nil _ _ _))).mono fun _ _ h => ⟨h.1, ka.trans h.2⟩
  · exact (does_5 w _ 5 t a b c v 0 1 _ rfl (by decide) (by decide) (th_Get _ none t a b 1 (th_nil _ _ _))).mono fun _ _ h => ⟨h.1, ka.trans h.2⟩
  · exact (does_6 w _ 6 t a b c v 1 _ rfl (th_Put _ none t a b 1 (th_nil _ _ _))).mono fun _ _ h => ⟨h.1, ka.trans h.2⟩
  · exact (does_7 w _ 7 t a b c v 1 _ rfl (th_Move _ none t a b 1 (th_nil _ _ _))).mono fun _ _ h => ⟨h.1, ka.trans h.2⟩
  · exact (does_8 w _ 8 t a b c v 1 _ rfl (th_Clear _ none t a 1 (th_nil _ _ _))).mono fun _ _ h => ⟨h.1, ka.trans h.2⟩
  · exact (does_9 w _ 9 t a b c v 1 _ rfl (th_Push _ none t a 1 (th_nil _ _ _))).mono fun _ _ h => ⟨h.1, ka.trans h.2⟩
  · exact (does_10 w _ 10 t a b c v 1 _ rfl (th_Pop _ none t a 1 (th_nil _ _ _))).mono fun _ _ h => ⟨h.1, ka.trans h.2⟩
  · exact (does_11 w _ d t a b c v 0 1 _ hd (by decide) (by decide) (th_Slot _ none t a 1 (th_nil _ _ _))).mono fun _ _ h => ⟨h.1, ka.trans h.2⟩

end Go.Proofs.YtmbhhadghiojeaaGreat
