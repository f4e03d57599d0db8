/- Layer 10's acts on a graph that lies somewhere: New. Conditions: as each theorem states them. -/
import Derived.Test.YtmbhhadghiojeaaGrW
namespace Go.Proofs.Ytmbhhadghiojeaa
set_option linter.unusedVariables false
set_option linter.unusedSimpArgs false
open Go.RowKit


def fresh (nt ns nl : Nat) : Gs := ⟨nt, fun _ => List.replicate ns 0, fun _ => [], 0, fun _ => List.replicate nl 0, fun _ => []⟩
theorem wf_fresh {nt ns nl M : Nat} (h1 : 1 ≤ nt) (h2 : nt ≤ 64) (h3 : nl ≤ 8) : Wf (fresh nt ns nl) M := by
  refine ⟨h1, h2, Nat.zero_le _, by simpa [fresh] using h3, fun n a b => ?_, fun t _ x hx => ?_, fun t _ x hx => ?_, fun n _ x hx => ?_⟩
  · have : n ≤ 0 := b
    omega
  · have : x ∈ List.replicate ns (0 : Int) := hx
    rw [List.mem_replicate] at this
    rw [this.2]
    exact ⟨Int.le_refl _, by simp [fresh]⟩
  · have : x ∈ ([] : List Int) := hx
    simp at this
  · have : x ∈ List.replicate nl (0 : Int) := hx
    rw [List.mem_replicate] at this
    rw [this.2]
    exact ⟨Int.le_refl _, by simp [fresh]⟩

theorem Nw.gy {w0 w : World} {p B g0 nl ns nt : Nat} {v : Value} {us : List Nat} (h : Nw w0 p B g0 nl ns v us w) (hu : us.length = nt) (h1 : 1 ≤ nt) : ∃ y, Gy w p (fresh nt ns nl) y ∧ ∀ b, Foot p (fresh nt ns nl) y b → w0.heap.size ≤ b := by
  rcases h.own.2 with ⟨rfl, h0⟩ | ⟨g, c, cur, rfl, hge, hg, r1, r2, r3, r4⟩
  · omega
  · refine ⟨⟨g, c, B, fun i => us.getD i 0, fun _ => g0, fun _ => nl, fun _ => 0, fun _ => 0⟩, ?_, ?_⟩
    · refine ⟨?_, ⟨cur, hg, fun i hi => ?_⟩, fun i hi => h.hq i (by rw [hu]; exact hi), fun n hn => h.hg, fun n a b => ?_, h.hm.congr fun n a b => ?_, fun i j hi hj e => h.nd i j (by rw [hu]; exact hi) (by rw [hu]; exact hj) e, fun n k hn hk _ => ?_, fun n k a b => ?_⟩
      · rw [h.hp]
        simp [fresh, hu]
      · have hi' : i < us.length := by rw [hu]; exact hi
        rw [Nat.mul_one] at r4
        have := ptrs_get us i hi'
        rw [← r4, List.getElem?_take_of_lt hi'] at this
        simpa using this
      · have : n ≤ 0 := b
        omega
      · have : n ≤ 0 := b
        omega
      · have : n ≤ 0 := hn
        have : k ≤ 0 := hk
        omega
      · have : n ≤ 0 := b
        omega
    · rintro b (rfl | rfl | rfl | ⟨i, hi, rfl⟩ | ⟨n, hn, rfl⟩ | ⟨n, a, hn, rfl⟩)
      · exact h.lo.1
      · exact hge
      · exact h.lo.2.1
      · exact h.lo.2.2.2 i (by rw [hu]; exact hi)
      · exact h.lo.2.2.1
      · have : n ≤ 0 := hn
        omega


def newBad (h k l : Int) : Prop := h < 1 ∨ 64 < h ∨ l < 0 ∨ 8 < l ∨ k < 1 ∨ 8 < k
theorem g_New_no (w : World) (h k l : Int) (hb : newBad h k l) : Calls Try.prog 9 #[.int .i64 h, .int .i64 k, .int .i64 l] w (Fail w (.tuple #[.pointer none, .int .i64 2])) := by
  have B := bx_New w (h) (k) (l)
  refine no_New w h k l 2 ?_
  by_cases h1 : h < 1 ∨ 64 < h ∨ l < 0 ∨ 8 < l
  · exact new1_bad _ _ _ _ _ h l k (cell_of_row B.1 0) (cell_of_row B.2.2.1 0) h1
  · obtain ⟨nt, rfl⟩ : ∃ n : Nat, h = n := ⟨h.toNat, by omega⟩
    obtain ⟨nl, rfl⟩ : ∃ n : Nat, l = n := ⟨l.toNat, by omega⟩
    exact new1_slots _ _ _ _ _ nt nl k (cell_of_row B.1 0) (cell_of_row B.2.2.1 0) (cell_of_row B.2.1 0) (by omega) (by omega) (by omega) (by unfold newBad at hb; omega)

/-- A graph has been made. -/
def NewIs (w : World) (nt ns nl : Nat) (e : Ending) (w' : World) : Prop :=
  ∃ p, e = .returned (.tuple #[.pointer (some ⟨p, 0, none⟩), .int .i64 0]) ∧ Gx (fun b => w.heap.size ≤ b ∧ b < w'.heap.size) w' p (fresh nt ns nl) ∧ Kp [] w w'
theorem g_New (w : World) (nt ns nl : Nat) (h1 : 1 ≤ nt) (h2 : nt ≤ 64) (h3 : nl ≤ 8) (h4 : 1 ≤ ns) (h5 : ns ≤ 8) : Calls Try.prog 9 #[.int .i64 nt, .int .i64 ns, .int .i64 nl] w (NewIs w nt ns nl) := by
  have B := bx_New w nt ns nl
  have hc := new1_ok _ _ _ _ _ nt nl ns (cell_of_row B.1 0) (cell_of_row B.2.2.1 0) (cell_of_row B.2.1 0) _ B.2.2.2.1 h1 h2 h3 h4 h5
  have hWs : ((((((w.alloc (.cells #[.int .i64 nt] 3)).alloc (.cells #[.int .i64 ns] 3)).alloc (.cells #[.int .i64 nl] 3)).alloc (.cells #[.pointer none] 25)).alloc (.cells #[.int .i64 0] 26))).heap.size = w.heap.size + 5 := by simp [World.size_alloc]
  generalize hW : (((((w.alloc (.cells #[.int .i64 nt] 3)).alloc (.cells #[.int .i64 ns] 3)).alloc (.cells #[.int .i64 nl] 3)).alloc (.cells #[.pointer none] 25)).alloc (.cells #[.int .i64 0] 26)) = W at hc hWs B
  refine (ok_New w nt ns nl (fun w3 => ∃ w2 B g0 v us, us.length = nt ∧ Nw W (W.heap.size + 1 + 1) B g0 nl ns v us w2 ∧ w3 = w2.setCell ⟨w.heap.size + 1 + 1 + 1, 0, none⟩ (.pointer (some ⟨W.heap.size + 1 + 1, 0, none⟩))) (some ⟨W.heap.size + 1 + 1, 0, none⟩) (by rw [hW]; exact hc) ?_ ?_).mono ?_
  · rintro w3 ⟨w2, B', g0, v, us, hu, hN, rfl⟩
    exact ((Kp.refl [w.heap.size + 1 + 1 + 1] w2).setCell (.inl (by simp)) _).row (by simp) (hN.kp.row (by simp) B.2.2.2.2.1)
  · rintro w3 ⟨w2, B', g0, v, us, hu, hN, rfl⟩
    rw [heap_setCell_same _ _ _ _ _ _ (hN.kp.row (by simp) B.2.2.2.1)]; rfl
  · rintro e w' ⟨rfl, w3, ⟨w2, B', g0, v, us, hu, hN, rfl⟩, hk4⟩
    have hk3 : Kp [w.heap.size + 1 + 1 + 1, w.heap.size + 1 + 1 + 1 + 1] w2 w' := (((Kp.refl [w.heap.size + 1 + 1 + 1] w2).setCell (.inl (by simp)) _).mono (by simp)).trans hk4
    obtain ⟨y, hy, hf⟩ := hN.gy hu h1
    refine ⟨_, rfl, ⟨y, hy.keep hk3 ?_, fun b hb => ?_⟩, kp_root B.2.2.2.2.2 hN.kp hk3 (by simp <;> omega)⟩
    · intro b hb hfoot
      have := hf b hfoot
      simp at hb
      omega
    · have h1 := hf b hb
      have h2 := hy.lt hb
      have := hk3.size
      omega

end Go.Proofs.Ytmbhhadghiojeaa
