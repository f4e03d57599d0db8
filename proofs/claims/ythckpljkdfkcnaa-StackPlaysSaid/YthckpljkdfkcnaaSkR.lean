/- The document's own stack (demesneref08): Push, Pop. Conditions: as each theorem states them. -/
import Derived.Test.YthckpljkdfkcnaaSkN
import Derived.Test.YthckpljkdfkcnaaLaw
import Derived.OwnWalk
import Derived.Deep.AppendLies
import Derived.Deep.RegionHeld3
import Derived.Deep.RegionLaw
import Derived.Handy
namespace Go.Proofs.Ythckpljkdfkcnaa
set_option linter.unusedVariables false
set_option linter.unusedSimpArgs false
open Go.RowKit

theorem results_cell_tmp2 {fn : Func} {p u v : Tmp} {ty : TypeId} (h : fn.results = #[.cell p ty, .tmp u, .tmp v]) (tmps : Array Value) (P : Program) (w : World) :
    (results fn tmps).run P w = ((asAddr (tmps.getD p undef)).run P w).andThen fun a w₁ => ((loadVar ty a).run P w₁).andThen fun x w₂ => .ok (.tuple #[x, tmps.getD u undef, tmps.getD v undef]) w₂ := by
  simp only [results, h]
  simp [Sem.run_bind, Result.andThen]
theorem results_row_tmp2 {P : Program} {fn : Func} {p u v : Tmp} {ty : TypeId} (h : fn.results = #[.cell p ty, .tmp u, .tmp v]) (tmps : Array Value) (w : World) (g : Nat) (t : TypeId) (cs : Array Value) (fr : Nat × Nat) (d : TypeDesc)
    (hp : tmps.getD p undef = .pointer (some ⟨g, 0, none⟩)) (hg : w.heap[g]? = some (.cells cs t fr))
    (hu : P.underlying ty = some d) (hd : (match d with | .struct _ | .array _ _ => true | _ => false) = true) (hi : (P.info? ty).map (·.size) = some cs.size) :
    (results fn tmps).run P w = .ok (.tuple #[.agg cs, tmps.getD u undef, tmps.getD v undef]) w := by
  rw [results_cell_tmp2 h, hp]
  simp [asAddr, run_loadVar_row w g t ty cs fr d hg hu hd hi, Result.andThen]
theorem bodyPost_row_tmp2 {P : Program} {fn : Func} {R : Ending → World → Prop} {a : Act} {w : World} {p u v : Tmp} {ty : TypeId} (h : fn.results = #[.cell p ty, .tmp u, .tmp v]) (g : Nat) (t : TypeId) (cs : Array Value) (fr : Nat × Nat) (d : TypeDesc) (x y : Value)
    (hp : a.tmps.getD p undef = .pointer (some ⟨g, 0, none⟩)) (hx : a.tmps.getD u undef = x) (hy : a.tmps.getD v undef = y) (hdef : a.defers = []) (hg : w.heap[g]? = some (.cells cs t fr))
    (hu : P.underlying ty = some d) (hd : (match d with | .struct _ | .array _ _ => true | _ => false) = true) (hi : (P.info? ty).map (·.size) = some cs.size)
    (hR : R (.returned (.tuple #[.agg cs, x, y])) w) : bodyPost P fn R .ret a w := by
  subst hx hy
  exact bodyPost_ret (results_row_tmp2 h a.tmps w g t cs fr d hp hg hu hd hi) hdef hR

theorem rpop_empty (w : World) (N : Int) (u : Value) (o : Bool) (h : Rd w u []) :
    Calls Try.prog 9 #[.agg #[.int .i64 N, u, .bool o]] w fun e w' => e = .returned (.tuple #[.agg #[.int .i64 N, u, .bool o], .int .i64 0, .bool false]) ∧ Kp [] w w' := by
  obtain ⟨ao, cap, rfl, _⟩ := h.form
  clear h
  go_enter Try.func9, Try.ntmps9
  go_wp2_with fail
  have hz := heap_alloc_new (w.alloc (Obj.cells #[.int .i64 N, .slice ao 0 cap, .bool o] 30)) (Obj.cells #[.int .i64 N, .slice ao 0 cap, .bool o] 30)
  rw [World.size_alloc] at hz
  exact bodyPost_row_tmp2 rfl (w.heap.size + 1) 30 _ (0, 0) _ (.int .i64 0) (.bool false) rfl rfl rfl rfl hz Try.underlying30 rfl (by kernel_rfl) ⟨rfl, ((Kp.refl _ _).alloc _).alloc _⟩

theorem rpop_some (w : World) (N : Int) (u : Value) (L : List Int) (x : Int) (o : Bool) (h : Rd w u (L ++ [x])) (hl : L.length ≤ 100) :
    Calls Try.prog 9 #[.agg #[.int .i64 N, u, .bool o]] w fun e w' => ∃ u', e = .returned (.tuple #[.agg #[.int .i64 N, u', .bool o], .int .i64 x, .bool true]) ∧ Rd w' u' L ∧ Kp [] w w' := by
  obtain ⟨g, i, cap, rfl, hcap, hc, hr⟩ := h.last
  have hg : g < w.heap.size := block_lt_of_cell hc
  have HR := Lib.hid hr
  clear h hr
  generalize L.length = k at hc hl hcap HR
  go_enter Try.func9, Try.ntmps9
  go_wp2_with fail
  go_region
  go_wp2_with fail
  have hz := heap_alloc_new (w.alloc (Obj.cells #[.int .i64 N, .slice (some ⟨g, i, none⟩) (k + 1) cap, .bool o] 30)) (Obj.cells #[.int .i64 N, .slice (some ⟨g, i, none⟩) k cap, .bool o] 30)
  rw [World.size_alloc] at hz
  have hk : Kp [] w (((w.alloc (Obj.cells #[.int .i64 N, .slice (some ⟨g, i, none⟩) (k + 1) cap, .bool o] 30)).alloc (Obj.cells #[.int .i64 N, .slice (some ⟨g, i, none⟩) k cap, .bool o] 30)).drew) := (((Kp.refl _ _).alloc _).alloc _).drew
  exact bodyPost_row_tmp2 rfl (w.heap.size + 1) 30 _ (0, 0) _ (.int .i64 x) (.bool true) rfl rfl rfl rfl hz Try.underlying30 rfl (by kernel_rfl) ⟨_, rfl, HR.out.keep0 hk, hk⟩

/-- The document's own Pop: what it answers. -/
theorem rpop_any (w : World) (N : Int) (u : Value) (L : List Int) (o : Bool) (h : Rd w u L) (hl : L.length ≤ 100) :
    Calls Try.prog 9 #[.agg #[.int .i64 N, u, .bool o]] w fun e w' => ∃ u', e = .returned (.tuple #[.agg #[.int .i64 N, u', .bool o], .int .i64 (popX L), .bool (popB L)]) ∧ Rd w' u' L.dropLast ∧ Kp [] w w' := by
  rcases List.eq_nil_or_concat L with rfl | ⟨M, x, hM⟩
  · refine (rpop_empty w N u o h).mono ?_
    rintro e w' ⟨rfl, hk⟩
    exact ⟨u, rfl, h.keep0 hk, hk⟩
  · rw [List.concat_eq_append] at hM
    subst hM
    refine (rpop_some w N u M x o h (by simp at hl; omega)).mono ?_
    rintro e w' ⟨u', rfl, hr, hk⟩
    refine ⟨u', ?_, by simpa using hr, hk⟩
    simp [popX, popB]

/-! ### Push -/

/-- Blocks that are no rows of ints are as they were. -/
def Ky (w w' : World) : Prop := ∀ (g : Nat) (cs : Array Value) (t : TypeId), 3 ≠ t → w.heap[g]? = some (Obj.cells cs t (0, 0)) → w'.heap[g]? = some (Obj.cells cs t (0, 0))
theorem ky_of {w w' : World} (h : Kp [] w w') : Ky w w' := fun g cs t _ hg => h.row (by simp) hg
theorem ky_row {w w' : World} {S : List Nat} (h : Kp S w w') (hS : ∀ g ∈ S, ∃ cur, w.heap[g]? = some (.cells cur 3 (0, 0))) : Ky w w' := fun g cs t ht hg => h.row (fun e => by
  obtain ⟨cur, hc⟩ := hS g e
  exact ne_types hc hg ht rfl) hg

/-- What holds in each world behind the boxes: the box, the answer's box, and that nothing older has turned. -/
def Bx (w0 : World) (N : Int) (u : Value) (o : Bool) (w' : World) : Prop :=
  w'.cell? ⟨w0.heap.size, 0, none⟩ = some (.int .i64 N) ∧ w'.cell? ⟨w0.heap.size, 1, none⟩ = some u ∧ w'.cell? ⟨w0.heap.size, 2, none⟩ = some (.bool o) ∧
    w'.heap[w0.heap.size]? = some (.cells #[.int .i64 N, u, .bool o] 30 (0, 0)) ∧
    (∃ cs, w'.heap[w0.heap.size + 1]? = some (.cells cs 30 (0, 0)) ∧ cs.size = 3) ∧ Kp [] w0 w'
section
variable {w0 w w' : World} {N : Int} {u : Value} {o : Bool}
theorem bx_mk (h1 : w'.heap[w0.heap.size]? = some (.cells #[.int .i64 N, u, .bool o] 30 (0, 0))) (h2 : ∃ cs, w'.heap[w0.heap.size + 1]? = some (.cells cs 30 (0, 0)) ∧ cs.size = 3) (h3 : Kp [] w0 w') : Bx w0 N u o w' :=
  ⟨by rw [cell_of_row h1]; rfl, by rw [cell_of_row h1]; rfl, by rw [cell_of_row h1]; rfl, h1, h2, h3⟩
theorem bx_kp (h : Bx w0 N u o w) : Kp [] w0 w := h.2.2.2.2.2
theorem bx_to (h : Bx w0 N u o w) (k : Ky w w') (hk : Kp [] w0 w') : Bx w0 N u o w' := by
  obtain ⟨_, _, _, h1, ⟨cs, h2, h3⟩, _⟩ := h
  exact bx_mk (k _ _ _ (by decide) h1) ⟨cs, k _ _ _ (by decide) h2, h3⟩ hk
theorem bx_on (h : Bx w0 N u o w) (k : Kp [] w w') : Bx w0 N u o w' := bx_to h (ky_of k) ((bx_kp h).trans k)
theorem bx_drew (h : Bx w0 N u o w) : Bx w0 N u o w.drew := bx_on h (Kp.refl _ _).drew
theorem bx_alloc (h : Bx w0 N u o w) (x : Obj) : Bx w0 N u o (w.alloc x) := bx_on h ((Kp.refl _ _).alloc _)
theorem bx_ans (h : Bx w0 N u o w) : ∃ cs, w.heap[w0.heap.size + 1]? = some (.cells cs 30 (0, 0)) ∧ cs.size = 3 := h.2.2.2.2.1
theorem bx_cells (h : Bx w0 N u o w) : ∃ v0 v1 v2, w.cell? ⟨w0.heap.size + 1, 0, none⟩ = some v0 ∧ w.cell? ⟨w0.heap.size + 1, 1, none⟩ = some v1 ∧ w.cell? ⟨w0.heap.size + 1, 2, none⟩ = some v2 ∧
    w.frozen? ⟨w0.heap.size + 1, 0, none⟩ = false ∧ w.frozen? ⟨w0.heap.size + 1, 1, none⟩ = false ∧ w.frozen? ⟨w0.heap.size + 1, 2, none⟩ = false := by
  obtain ⟨cs, h1, h2⟩ := bx_ans h
  refine ⟨cs[0], cs[1], cs[2], ?_, ?_, ?_, free_of_row h1 _, free_of_row h1 _, free_of_row h1 _⟩ <;> rw [cell_of_row h1] <;> simp [h2]
theorem bx_set (h : Bx w0 N u o w) (i : Nat) (v : Value) : Bx w0 N u o (w.setCell ⟨w0.heap.size + 1, i, none⟩ v) := by
  obtain ⟨_, _, _, h1, ⟨cs, h2, h3⟩, h4⟩ := h
  exact bx_mk ((heap_setCell_other _ _ _ _ (by simp)).trans h1) ⟨_, heap_setCell_same _ _ _ _ _ _ h2, by simpa using h3⟩ (h4.setCell (.inr (by simp)) _)
theorem bx_set3 (h : Bx w0 N u o w) (a b c : Value) : Bx w0 N u o (((w.setCell ⟨w0.heap.size + 1, 0, none⟩ a).setCell ⟨w0.heap.size + 1, 1, none⟩ b).setCell ⟨w0.heap.size + 1, 2, none⟩ c) := bx_set (bx_set (bx_set h 0 a) 1 b) 2 c
/-- The answer, stored. -/
theorem bx_fin (h : Bx w0 N u o w) (a b c : Value) : (((w.setCell ⟨w0.heap.size + 1, 0, none⟩ a).setCell ⟨w0.heap.size + 1, 1, none⟩ b).setCell ⟨w0.heap.size + 1, 2, none⟩ c).heap[w0.heap.size + 1]? = some (.cells #[a, b, c] 30 (0, 0)) := by
  obtain ⟨cs, h1, h2⟩ := bx_ans h
  rw [heap_setCell_same _ _ _ _ _ _ (heap_setCell_same _ _ _ _ _ _ (heap_setCell_same _ _ _ _ _ _ h1))]
  congr 2
  apply Array.ext
  · simp [h2]
  · intro i hi _
    have : i = 0 ∨ i = 1 ∨ i = 2 := by simp [h2] at hi; omega
    rcases this with rfl | rfl | rfl <;> simp [h2]
theorem bx_rd (h : Bx w0 N u o w) {v : Value} {xs : List Int} (hr : Rd w v xs) (a b c : Value) : Rd (((w.setCell ⟨w0.heap.size + 1, 0, none⟩ a).setCell ⟨w0.heap.size + 1, 1, none⟩ b).setCell ⟨w0.heap.size + 1, 2, none⟩ c) v xs := by
  obtain ⟨cs, h1, h2⟩ := bx_ans h
  have k : Kp [w0.heap.size + 1] w (((w.setCell ⟨w0.heap.size + 1, 0, none⟩ a).setCell ⟨w0.heap.size + 1, 1, none⟩ b).setCell ⟨w0.heap.size + 1, 2, none⟩ c) := (((Kp.refl _ _).setCell (.inl (by simp)) _).setCell (.inl (by simp)) _).setCell (.inl (by simp)) _
  exact hr.keep k fun g hg => by simpa using hr.nin h1 (by decide) g hg
theorem bx_row (h : Bx w0 N u o w) (cs' : Array Value) (hs : cs'.size = 3) : Bx w0 N u o (w.setRow (w0.heap.size + 1) cs') := by
  obtain ⟨_, _, _, h1, ⟨cs, h2, h3⟩, h4⟩ := h
  exact bx_mk ((setRow_other _ _ _ _ (by simp)).trans h1) ⟨_, setRow_heap _ _ _ _ _ _ h2, hs⟩ (h4.setRow (.inr (by simp)) _)
end

theorem news_kp {w w' : World} {x : Int} {t : TypeId} {H : Nat} (hH : H = w.heap.size) (k : Kp [] (w.alloc (.cells #[.int .i64 x] t)) w') : ∀ (j : Nat) (v : Value), [Value.int .i64 x][j]? = some v → w'.cell? ((⟨H, 0, none⟩ : Addr).add j) = some v := by
  intro j v hv
  have := news_one w x t ⟨H, 0, none⟩ (by rw [hH]) j v hv
  rw [Addr.add_lit] at this ⊢
  exact k.cell (by simp) this

/-- 'append(nil, xs...)', as one step of a region that draws. -/
theorem step_append_cp {w0 w : World} {ops : Array Oper} {o : Oper} {a : Act} {K : Act → World → Prop} {Q : Exit → Act → World → Prop} {E : Prop} (hgd : o.guard = none) (s x : Operand)
    (ho : o.op = .call { callee := .builtin .append, args := #[s, x], argTypes := #[28, 28] }) (u : Value) (L : List Int) (n : Nat) (hn : n = L.length) (hs : a.eval s = .slice none 0 0) (hx : a.eval x = u) (hr : Rd w u L) (hl : n ≤ 1000) (hk0 : Kp [] w0 w)
    (h : ∀ ao cap w', w'.ownsRow w0.heap.size 3 1 (.slice ao n cap) n (ints L) → Kp [] w w' → K (a.put o.dst (.slice ao n cap)) w') :
    if Region.wanted o (yielded ops a.tmps) = true then Oper.wp Try.prog o a w K Q else E := by
  subst hn
  have hw : Region.wanted o (yielded ops a.tmps) = true := by simp [Region.wanted, hgd]
  rw [if_pos hw]
  obtain ⟨i, hi, hz0, hz1, hz2⟩ := info_parts int_info
  rcases hr.news with ⟨rfl, rfl⟩ | ⟨ad, cap, rfl, hnews⟩
  · have hrun := fun ty => run_append_owned_none (P := Try.prog) (w := w) w0.heap.size 28 ty 3 i 1 Try.underlying28 hi (.slice none 0 0) 0 [] (World.ownsRow_nil _ _ _ _)
    unfold Oper.wp
    simp [execOp, ho, resolve, invoke, builtin, hs, hx, hrun, Result.andThen]
    exact h none 0 w (World.ownsRow_nil _ _ _ _) (Kp.refl _ _)
  · obtain ⟨v', w', hrun, r1, r2, _⟩ := run_append_own (P := Try.prog) w w0.heap.size 28 o.type 3 i (.int .i64 0) 1 8 Try.underlying28 hi hz0 hz1 hz2 rfl (by decide) (.slice none 0 0) 0 [] (World.ownsRow_nil _ _ _ _) ad L.length cap (ints L) (by simp [ints]) hnews (ones_ints L) (by unfold maxLen; omega) (by omega) hk0.size
    have hf : ∃ ao c, v' = .slice ao L.length c := by
      rcases r1.2 with ⟨rfl, h0⟩ | ⟨g, c, cur, rfl, _⟩
      · exact ⟨none, 0, by rw [Nat.zero_add] at h0; rw [h0]⟩
      · exact ⟨_, c, by rw [Nat.zero_add]⟩
    obtain ⟨ao, c, rfl⟩ := hf
    unfold Oper.wp
    simp [execOp, ho, resolve, invoke, builtin, hs, hx, hrun, Result.andThen]
    exact h ao c w' (by simpa using r1) (by
      have := kp_of_row (v := .slice none 0 0) r2
      simpa [blk_nil] using this)

/-- 'append(v, x)' onto a row of the call's own, as one step of a region that draws. -/
theorem step_append_snoc {w0 w : World} {ops : Array Oper} {o : Oper} {a : Act} {K : Act → World → Prop} {Q : Exit → Act → World → Prop} {E : Prop} (hgd : o.guard = none) (s x : Operand)
    (ho : o.op = .call { callee := .builtin .append, args := #[s, x], argTypes := #[28, 28] }) (ao : Option Addr) (cap n : Nat) (L : List Int) (z : Int) (ad : Addr) (hs : a.eval s = .slice ao n cap) (hx : a.eval x = .slice (some ad) 1 1)
    (hown : w.ownsRow w0.heap.size 3 1 (.slice ao n cap) n (ints L)) (hl : n ≤ 1000) (hk0 : Kp [] w0 w) (hz : ∀ j u, [Value.int .i64 z][j]? = some u → w.cell? (ad.add j) = some u)
    (h : ∀ g cap w', Rd w' (.slice (some ⟨g, 0, none⟩) (n + 1) cap) (L ++ [z]) → Ky w w' → Kp [] w0 w' → K (a.put o.dst (.slice (some ⟨g, 0, none⟩) (n + 1) cap)) w') :
    if Region.wanted o (yielded ops a.tmps) = true then Oper.wp Try.prog o a w K Q else E := by
  obtain ⟨i, hi, hz0, hz1, hz2⟩ := info_parts int_info
  have hnl : n = L.length := by have := hown.1; simpa [ints] using this.symm
  have hblk : ∀ y ∈ blk (.slice ao n cap), w0.heap.size ≤ y ∧ ∃ cur, w.heap[y]? = some (.cells cur 3 (0, 0)) := by
    intro y hy
    rcases hown.2 with ⟨e, _⟩ | ⟨g, c, cur, e, hge, hg, _⟩
    · rw [e] at hy; simp [blk_nil] at hy
    · rw [e, blk_some, List.mem_singleton] at hy
      subst hy
      exact ⟨hge, cur, hg⟩
  refine step_append_lies (P := Try.prog) w hgd s x 28 ho w0.heap.size 3 i (.int .i64 0) 1 8 Try.underlying28 hi hz0 hz1 hz2 rfl (by decide) (.slice ao n cap) n (ints L) hs hown ad 1 1 [.int .i64 z] hx rfl hz (one_cell z) (by decide) (by unfold maxLen; omega) (by omega) hk0.size _ rfl ?_
  intro g c w' hown' hg' _ _
  have hk := kp_of_row (v := .slice ao n cap) hg'
  refine h g c w' (Rd.of_own (base := w0.heap.size) ?_) (ky_row hk fun g hg => (hblk g hg).2) (((hk0.mono (by simp)).trans hk).mono fun y hy hlt => by have := (hblk y hy).1; omega)
  rw [ints_snoc]
  simpa [← hnl] using hown'

end Go.Proofs.Ythckpljkdfkcnaa
