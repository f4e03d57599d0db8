/- Says, on a graph of the document's that lies somewhere. Conditions: as each theorem states them. -/
import Derived.Test.YtmbhhadghiojeaaGreatGdS
import Derived.Test.YtmbhhadghiojeaaGreatGdP
import Derived.Test.YtmbhhadghiojeaaGreatDgA
import Derived.Test.YtmbhhadghiojeaaGreatDg6
namespace Go.Proofs.YtmbhhadghiojeaaGreat
set_option linter.unusedVariables false
set_option linter.unusedSimpArgs false
open Go.RowKit

theorem Left.back {F : Nat → Prop} {w wa w' : World} {q : Nat} {s : Gs} (k : Kp [] w wa) (h : Left F wa q s w') : Left F w q s w' := by
  refine ⟨h.1.mono fun b hb => ?_, ⟨h.2.os.trans k.os, h.2.tape.trans k.tape, h.2.output.trans k.output, Nat.le_trans k.size h.2.size, fun j hj hn => (h.2.block j (Nat.lt_of_lt_of_le hj k.size) hn).trans (k.block j hj (by simp))⟩⟩
  rcases hb with hb | ⟨h1, h2⟩
  · exact .inl hb
  · exact .inr ⟨Nat.le_trans k.size h1, h2⟩

theorem says_any {F : Nat → Prop} {w : World} {q : Nat} {s : Gs} {M : Nat} (hx : Dx F w q s) (hw : Wf s M) (hM : M ≤ 10000) (x : Ac) (hd0 : 0 ≤ x.d) :
    Calls Tryz.prog 10 #[.pointer (some ⟨q, 0, none⟩), acV x] w fun e w' => e = .returned (.tuple #[.int .u64 (doV s x), .int .i64 (doE s x)]) ∧ Left F w q (doS s x) w' := by
  obtain ⟨d, t, a, b, c, v⟩ := x
  have hd0 : 0 ≤ d := hd0
  have ka : Kp [] w (w.alloc (.cells #[.int .u8 d, .int .i64 t, .int .i64 a, .int .i64 b, .int .i64 c, .int .u64 v] 35)) := (Kp.refl _ _).alloc _
  have hc : d = 0 ∨ d = 1 ∨ d = 2 ∨ d = 3 ∨ d = 4 ∨ d = 5 ∨ d = 6 ∨ d = 7 ∨ d = 8 ∨ d = 9 ∨ d = 10 ∨ 11 ≤ d := by omega
  rcases hc with rfl | rfl | rfl | rfl | rfl | rfl | rfl | rfl | rfl | rfl | rfl | hd
  · -- Alloc
    have hv : 0 ≤ val (allocE s t a b c) ((s.m : Int) + 1) ∧ val (allocE s t a b c) ((s.m : Int) + 1) ≤ 1000000 := doV_in hw hM ⟨0, t, a, b, c, v⟩ (by show (0 : Int) ≠ 3; omega)
    exact (says_0 w _ 0 t a b c v _ _ _ rfl hv.1 hv.2 (d_Alloc (hx.on ka) hw hM t a b c)).mono fun _ _ h => ⟨h.1, Left.back ka h.2⟩
  · -- Load
    have hv : 0 ≤ val (loadE s t a b c) ((onR s t b).getD c.toNat 0) ∧ val (loadE s t a b c) ((onR s t b).getD c.toNat 0) ≤ 1000000 := doV_in hw hM ⟨1, t, a, b, c, v⟩ (by show (1 : Int) ≠ 3; omega)
    exact (says_1 w _ 1 t a b c v _ _ _ rfl hv.1 hv.2 (d_Load (hx.on ka) hw hM t a b c)).mono fun _ _ h => ⟨h.1, Left.back ka h.2⟩
  · -- Store
    exact (says_2 w _ 2 t a b c v _ _ rfl (d_Store (hx.on ka) hw hM t a b c)).mono fun _ _ h => ⟨h.1, Left.back ka h.2⟩
  · -- Read
    exact (says_3 w _ 3 t a b c v _ _ _ rfl (d_Read (hx.on ka) hw hM t a b)).mono fun _ _ h => ⟨h.1, Left.back ka h.2⟩
  · -- Write
    exact (says_4 w _ 4 t a b c v _ _ rfl (d_Write (hx.on ka) hw hM t a b v)).mono fun _ _ h => ⟨h.1, Left.back ka h.2⟩
  · -- Get
    have hv : 0 ≤ val (getE s t a b) ((s.R 0).getD b.toNat 0) ∧ val (getE s t a b) ((s.R 0).getD b.toNat 0) ≤ 1000000 := doV_in hw hM ⟨5, t, a, b, c, v⟩ (by show (5 : Int) ≠ 3; omega)
    exact (says_5 w _ 5 t a b c v _ _ _ rfl hv.1 hv.2 (d_Get (hx.on ka) hw t a b)).mono fun _ _ h => ⟨h.1, Left.back ka h.2⟩
  · -- Put
    exact (says_6 w _ 6 t a b c v _ _ rfl (d_Put (hx.on ka) hw t a b)).mono fun _ _ h => ⟨h.1, Left.back ka h.2⟩
  · -- Move
    exact (says_7 w _ 7 t a b c v _ _ rfl (d_Move (hx.on ka) hw t a b)).mono fun _ _ h => ⟨h.1, Left.back ka h.2⟩
  · -- Clear
    exact (says_8 w _ 8 t a b c v _ _ rfl (d_Clear (hx.on ka) hw t a)).mono fun _ _ h => ⟨h.1, Left.back ka h.2⟩
  · -- Push
    exact (says_9 w _ 9 t a b c v _ _ rfl (d_Push (hx.on ka) hw t a)).mono fun _ _ h => ⟨h.1, Left.back ka h.2⟩
  · -- Pop
    exact (says_10 w _ 10 t a b c v _ _ rfl (d_Pop (hx.on ka) hw t a)).mono fun _ _ h => ⟨h.1, Left.back ka h.2⟩
  · have e0 : doV s ⟨d, t, a, b, c, v⟩ = val (clearE s t a) (ofS s t a) := by
      have : d ≠ 0 ∧ d ≠ 1 ∧ d ≠ 2 ∧ d ≠ 3 ∧ d ≠ 4 ∧ d ≠ 5 ∧ d ≠ 6 ∧ d ≠ 7 ∧ d ≠ 8 ∧ d ≠ 9 ∧ d ≠ 10 := by omega
      simp [doV, this]
    have e1 : doE s ⟨d, t, a, b, c, v⟩ = clearE s t a := by
      have : d ≠ 0 ∧ d ≠ 1 ∧ d ≠ 2 ∧ d ≠ 3 ∧ d ≠ 4 ∧ d ≠ 5 ∧ d ≠ 6 ∧ d ≠ 7 ∧ d ≠ 8 ∧ d ≠ 9 ∧ d ≠ 10 := by omega
      simp [doE, this]
    have e2 : doS s ⟨d, t, a, b, c, v⟩ = s := by
      have : d ≠ 0 ∧ d ≠ 1 ∧ d ≠ 2 ∧ d ≠ 3 ∧ d ≠ 4 ∧ d ≠ 5 ∧ d ≠ 6 ∧ d ≠ 7 ∧ d ≠ 8 ∧ d ≠ 9 ∧ d ≠ 10 := by omega
      simp [doS, this]
    have hv := doV_in hw hM ⟨d, t, a, b, c, v⟩ (by show d ≠ 3; omega)
    rw [e0] at hv ⊢
    rw [e1, e2]
    exact (says_11 w _ d t a b c v _ _ _ hd hv.1 hv.2 (d_Slot (hx.on ka) hw t a)).mono fun _ _ h => ⟨h.1, Left.back ka h.2⟩

end Go.Proofs.YtmbhhadghiojeaaGreat
