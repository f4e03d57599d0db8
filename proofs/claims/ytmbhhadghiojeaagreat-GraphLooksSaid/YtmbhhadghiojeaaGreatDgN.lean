/- The document's own graph: May, New. Conditions: as each theorem states them. -/
import Derived.Test.YtmbhhadghiojeaaGreatDgA
import Derived.Deep.RegionLaw
import Derived.Deep.AppendLies
import Derived.Deep.LoopGhost
import Derived.IntWalk
namespace Go.Proofs.YtmbhhadghiojeaaGreat
set_option linter.unusedVariables false
set_option linter.unusedSimpArgs false
open Go.RowKit

/-- May there be such a graph? -/
def mayB (h k l : Int) : Bool := decide (1 ≤ h) && decide (h ≤ 64) && decide (1 ≤ k) && decide (k ≤ 8) && decide (0 ≤ l) && decide (l ≤ 8)
theorem may_any (w : World) (h k l : Int) : Calls Tryz.prog 7 #[.int .i64 h, .int .i64 k, .int .i64 l] w fun e w' => e = .returned (.bool (mayB h k l)) ∧ w = w' := by
  unfold mayB
  cases h1 : decide (1 ≤ h)
  · go_enter Tryz.func7, Tryz.ntmps7
    go_wp2
    go_ret
    exact ⟨rfl, rfl⟩
  cases h2 : decide (h ≤ 64)
  · go_enter Tryz.func7, Tryz.ntmps7
    go_wp2
    go_ret
    exact ⟨rfl, rfl⟩
  cases h3 : decide (1 ≤ k)
  · go_enter Tryz.func7, Tryz.ntmps7
    go_wp2
    go_ret
    exact ⟨rfl, rfl⟩
  cases h4 : decide (k ≤ 8)
  · go_enter Tryz.func7, Tryz.ntmps7
    go_wp2
    go_ret
    exact ⟨rfl, rfl⟩
  cases h5 : decide (0 ≤ l)
  · go_enter Tryz.func7, Tryz.ntmps7
    go_wp2
    go_ret
    exact ⟨rfl, rfl⟩
  cases h6 : decide (l ≤ 8)
  · go_enter Tryz.func7, Tryz.ntmps7
    go_wp2
    go_ret
    exact ⟨rfl, rfl⟩
  go_enter Tryz.func7, Tryz.ntmps7
  go_wp2
  go_ret
  exact ⟨rfl, rfl⟩

theorem roots_info : (Tryz.prog.info? 64).map (fun i => (i.zero, i.size, i.bytes)) = some (some (.agg #[.slice none 0 0, .slice none 0 0]), 2, 48) := by kernel_rfl
/-- The document's graph in the making: k threads are there. -/
structure Dn (w : World) (q g0 nl ns k : Nat) (tv : Value) (u v : Nat → Value) (wr : World) : Prop where
  hp : wr.heap[q]? = some (.cells #[tv, .slice (some ⟨g0, 0, none⟩) nl nl, .slice none 0 0] 62 (0, 0))
  ht : Pr 64 wr tv k u v
  hu : ∀ i, i < k → Rd wr (u i) (List.replicate ns 0) ∧ ∀ b ∈ blk (u i), w.heap.size ≤ b ∧ b ≠ g0
  hv : ∀ i, i < k → Rd wr (v i) [] ∧ ∀ b ∈ blk (v i), w.heap.size ≤ b ∧ b ≠ g0
  hg : Ro 3 .i64 wr g0 (List.replicate nl 0)
  lo : w.heap.size ≤ q ∧ w.heap.size ≤ g0 ∧ ∀ b ∈ blk tv, w.heap.size ≤ b
  kp : Kp [] w wr
theorem Dn.on {w wr w2 : World} {q g0 nl ns k : Nat} {tv : Value} {u v : Nat → Value} (h : Dn w q g0 nl ns k tv u v wr) (kk : Kp [] wr w2) : Dn w q g0 nl ns k tv u v w2 :=
  ⟨kk.row (by simp) h.hp, h.ht.keep kk (by simp), fun i hi => ⟨(h.hu i hi).1.keep0 kk, (h.hu i hi).2⟩, fun i hi => ⟨(h.hv i hi).1.keep0 kk, (h.hv i hi).2⟩, h.hg.keep0 kk, h.lo, h.kp.trans kk⟩
/-- One thread more. -/
theorem Dn.more {w wr wA w6 : World} {q g0 nl ns k : Nat} {tv : Value} {u v : Nat → Value} (h : Dn w q g0 nl ns k tv u v wr) (k1 : Kp [] wr wA) {u' v' : Value} (ru : Rd wA u' (List.replicate ns 0)) (rv : Rd wA v' []) (fu : ∀ b ∈ blk u', wr.heap.size ≤ b) (fv : ∀ b ∈ blk v', wr.heap.size ≤ b) {b cap : Nat}
    (hown : w6.ownsRow 0 64 2 (.slice (some ⟨b, 0, none⟩) (k + 1) cap) (k + 1) (prs u v k ++ [u', v'])) (k6 : Kp (blk tv) wA w6) (hb : b ∈ blk tv ∨ wr.heap.size ≤ b) :
    Dn w q g0 nl ns (k + 1) (.slice (some ⟨b, 0, none⟩) (k + 1) cap) (up u k u') (up v k v') (w6.setCell ⟨q, 0, none⟩ (.slice (some ⟨b, 0, none⟩) (k + 1) cap)) := by
  have hA := h.on k1
  have kE : Kp [q] w6 (w6.setCell ⟨q, 0, none⟩ (.slice (some ⟨b, 0, none⟩) (k + 1) cap)) := (Kp.refl _ _).setCell (.inl (by simp)) _
  have nt : ∀ {x : Nat} {cs : Array Value} {t : TypeId}, wA.heap[x]? = some (.cells cs t (0, 0)) → 64 ≠ t → x ∉ blk tv := fun hx ht e => by
    obtain ⟨cur, hc⟩ := hA.ht.block _ e
    exact ne_types hc hx ht rfl
  have hp6 := k6.row (nt hA.hp (by decide)) hA.hp
  have nq : ∀ {x : Nat} {cs : Array Value} {t : TypeId}, w6.heap[x]? = some (.cells cs t (0, 0)) → t ≠ 62 → x ∉ [q] := fun hx ht => by
    rw [List.mem_singleton]
    exact ne_types hx hp6 ht
  have rdk : ∀ {x : Value} {xs : List Int}, Rd wA x xs → Rd (w6.setCell ⟨q, 0, none⟩ (.slice (some ⟨b, 0, none⟩) (k + 1) cap)) x xs := fun hrA => by
    have hr6 := hrA.keep k6 fun x hx => by
      obtain ⟨cur, hc⟩ := hrA.ty x hx
      exact nt hc (by decide)
    exact hr6.keep kE fun x hx => by
      obtain ⟨cur, hc⟩ := hr6.ty x hx
      exact nq hc (by decide)
  have bq : b ≠ q := by
    rcases hown.2 with ⟨e, _⟩ | ⟨b', c', cur, e, _, hbb, _⟩
    · cases e
    · simp only [Value.slice.injEq, Option.some.injEq, Addr.mk.injEq, true_and, and_true] at e
      obtain ⟨rfl, _⟩ := e
      exact ne_types hbb hp6 (by decide)
  have gl := h.hg.lt
  have wl := h.kp.size
  refine ⟨?_, ?_, fun i hi => ?_, fun i hi => ?_, ?_, ⟨h.lo.1, h.lo.2.1, fun x hx => ?_⟩, ?_⟩
  · rw [heap_setCell_same _ _ _ _ _ _ hp6]; rfl
  · have hpr : Pr 64 w6 (.slice (some ⟨b, 0, none⟩) (k + 1) cap) (k + 1) (up u k u') (up v k v') := by
      have e : prs (up u k u') (up v k v') (k + 1) = prs u v k ++ [u', v'] := by
        rw [prs, up_same, up_same]
        congr 1
        exact prs_congr k fun i hi => ⟨up_other _ _ (by omega), up_other _ _ (by omega)⟩
      unfold Pr
      rw [e]
      exact hown
    exact hpr.keep kE fun x hx => by
      rw [blk_some, List.mem_singleton] at hx
      rw [hx, List.mem_singleton]
      exact bq
  · by_cases e : i = k
    · subst e
      rw [up_same]
      exact ⟨rdk ru, fun b hb => by have := fu b hb; omega⟩
    · rw [up_other _ _ e]
      exact ⟨rdk (hA.hu i (by omega)).1, (h.hu i (by omega)).2⟩
  · by_cases e : i = k
    · subst e
      rw [up_same]
      exact ⟨rdk rv, fun b hb => by have := fv b hb; omega⟩
    · rw [up_other _ _ e]
      exact ⟨rdk (hA.hv i (by omega)).1, (h.hv i (by omega)).2⟩
  · obtain ⟨cur, hc, hx⟩ := hA.hg
    have h6 := k6.row (nt hc (by decide)) hc
    exact ⟨cur, kE.row (nq h6 (by decide)) h6, hx⟩
  · rw [blk_some, List.mem_singleton] at hx
    rw [hx]
    rcases hb with hb | hb
    · exact h.lo.2.2 b hb
    · omega
  · have kk : Kp (q :: blk tv) wA (w6.setCell ⟨q, 0, none⟩ (.slice (some ⟨b, 0, none⟩) (k + 1) cap)) := (k6.mono fun x hx _ => List.mem_cons_of_mem _ hx).trans (kE.mono fun x hx _ => by rw [List.mem_singleton] at hx; rw [hx]; exact List.mem_cons_self ..)
    exact (kp_then (h.kp.trans k1) kk).mono fun x hx hlt => by
      exfalso
      rcases List.mem_cons.1 hx with rfl | hx
      · have := h.lo.1; omega
      · have := h.lo.2.2 x hx; omega
/-- All threads are there. -/
theorem Dn.dx {w wr : World} {q g0 nl ns nt : Nat} {tv : Value} {u v : Nat → Value} (h : Dn w q g0 nl ns nt tv u v wr) (h1 : 1 ≤ nt) (h8 : ns ≤ 8) : Dx (fun b => w.heap.size ≤ b ∧ b < wr.heap.size) wr q (fresh nt ns nl) := by
  obtain ⟨tb, tc, cur, e, hb, _⟩ := h.ht.at h1
  subst e
  have hy : Dy wr q (fresh nt ns nl) ⟨tb, tc, .slice none 0 0, u, v, fun _ => g0, fun _ => nl, fun _ => 0, fun _ => 0⟩ := by
    refine ⟨?_, h.ht, World.ownsRow_nil _ _ _ _, fun i hi => (h.hu i hi).1, fun i hi => (h.hv i hi).1, fun i hi => ⟨?_, ?_⟩, fun n hn => ⟨h.hg, ?_⟩, fun n n1 hn => ?_, fun n k hn hk _ => ?_, fun n k n1 hn => ?_, fun i n hi hn => ⟨fun hh => ((h.hu i hi).2 _ hh).2 rfl, fun hh => ((h.hv i hi).2 _ hh).2 rfl⟩⟩
    · rw [h.hp]
      simp [refsV, fresh]
    · show (List.replicate ns (0 : Int)).length ≤ 8
      rw [List.length_replicate]; exact h8
    · show ([] : List Int).length ≤ 16
      simp
    · show (List.replicate nl (0 : Int)).length ≤ nl
      rw [List.length_replicate]; exact Nat.le_refl _
    · have : n ≤ 0 := hn
      omega
    · have : n ≤ 0 := hn
      have : k ≤ 0 := hk
      omega
    · have : n ≤ 0 := hn
      omega
  refine ⟨_, hy, fun b hbb => ⟨?_, hy.lt hbb⟩⟩
  rcases hbb with rfl | rfl | hbb | ⟨i, hi, hbb | hbb⟩ | ⟨n, hn, rfl⟩ | ⟨n, n1, hn, rfl⟩
  · exact h.lo.1
  · exact h.lo.2.2 _ (by simp [blk_some])
  · simp [blk_nil] at hbb
  · exact ((h.hu i hi).2 b hbb).1
  · exact ((h.hv i hi).2 b hbb).1
  · exact h.lo.2.1
  · have : n ≤ 0 := hn
    omega

end Go.Proofs.YtmbhhadghiojeaaGreat
