/- Rows of the call's own, of elements of whatever type; 'append', its run and its law; such a row as what is held of blocks. Conditions: as each lemma states them. -/
import Derived.Test.YtdnlddjgjceogaaRows
import Derived.Test.YtdnlddjgjceogaaKeep
import Derived.OneCell
import Derived.Deep.Draws
import Derived.ProofKit
import Derived.OwnWalk
import Derived.ArgAppend
import Derived.Deep.AppendLies
import Derived.Maps.AppendAt
import Derived.Laws.BytesArg
import Derived.Deep.RegionLaw
namespace Go.Proofs.Ytdnlddjgjceogaa
set_option linter.unusedVariables false
set_option linter.unusedSimpArgs false
open Go.RowKit
/-- The block that a slice leads to, as a list. -/
def blk (v : Value) : List Nat := v.ownBlock.toList
theorem blk_nil : blk (.slice none 0 0) = [] := rfl
theorem blk_some (g o n c : Nat) : blk (.slice (some ⟨g, o, none⟩) n c) = [g] := rfl
theorem kp_of_row {w w' : World} {v : Value} (h : w.grownBy w' v.ownBlock) : Kp (blk v) w w' := ⟨h.os, h.tape, h.output, h.size, fun k hk hn => h.block k hk (by
  intro e
  apply hn
  unfold blk
  rw [Option.mem_toList]
  exact e.symm)⟩
theorem kp_drewN {S : List Nat} (w : World) (j : Nat) : Kp S w (w.drewN j) := ⟨rfl, rfl, rfl, Nat.le_refl _, fun _ _ _ => rfl⟩
theorem kp_drewk {S : List Nat} (w : World) : Kp S w w.drew := (Kp.refl S w).drew
theorem ne_types {w : World} {a b : Nat} {x y : Array Value} {t u : TypeId} (h : w.heap[a]? = some (.cells x t (0, 0))) (k : w.heap[b]? = some (.cells y u (0, 0))) (htu : t ≠ u) : a ≠ b := by
  intro e; subst e
  have := h.symm.trans k
  simp at this
  exact htu this.2
theorem Kp.cell {S : List Nat} {w w' : World} (k : Kp S w w') {g o : Nat} (hg : g ∉ S) {v : Value} (h : w.cell? ⟨g, o, none⟩ = some v) : w'.cell? ⟨g, o, none⟩ = some v :=
  (World.cell?_of_block (a := ⟨g, o, none⟩) (k.block g (block_lt_of_cell h) hg)).trans h


/-- A row of the call's own, made since base: n elements of type T, sz cells each. -/
structure Rw (T : TypeId) (sz : Nat) (base : Nat) (w : World) (v : Value) (n : Nat) (xs : List Value) : Prop where
  own : w.ownsRow base T sz v n xs
section
variable {T : TypeId} {sz base : Nat} {w w' : World} {v : Value} {n : Nat} {xs : List Value}
theorem Rw.nil (T : TypeId) (sz base : Nat) (w : World) : Rw T sz base w (.slice none 0 0) 0 [] := ⟨World.ownsRow_nil _ _ _ _⟩
theorem Rw.keep {S : List Nat} (h : Rw T sz base w v n xs) (k : Kp S w w') (hS : ∀ b ∈ blk v, b ∉ S) : Rw T sz base w' v n xs := by
  refine ⟨h.own.1, ?_⟩
  rcases h.own.2 with h0 | ⟨b, c, cur, rfl, hge, hb, r⟩
  · exact .inl h0
  · exact .inr ⟨b, c, cur, rfl, hge, k.row (hS b (by simp [blk_some])) hb, r⟩
theorem Rw.keep0 (h : Rw T sz base w v n xs) (k : Kp [] w w') : Rw T sz base w' v n xs := h.keep k (by simp)
theorem Rw.block (h : Rw T sz base w v n xs) : ∀ b ∈ blk v, base ≤ b ∧ ∃ cur, w.heap[b]? = some (.cells cur T (0, 0)) := by
  intro b hb
  rcases h.own.2 with ⟨rfl, _⟩ | ⟨b', c, cur, rfl, hge, hb', _⟩
  · simp [blk_nil] at hb
  · rw [blk_some, List.mem_singleton] at hb
    exact ⟨hb ▸ hge, cur, hb ▸ hb'⟩
theorem Rw.keepT {T' : TypeId} {sz' base' n' : Nat} {v' : Value} {xs' : List Value} (h : Rw T sz base w v n xs) (h' : Rw T' sz' base' w v' n' xs') (hT : T ≠ T') (k : Kp (blk v') w w') : Rw T sz base w' v n xs :=
  h.keep k fun b hb hb' => by
    obtain ⟨_, c, hc⟩ := h.block b hb
    obtain ⟨_, c', hc'⟩ := h'.block b hb'
    exact ne_types hc hc' hT rfl
theorem Rw.nin {b : Nat} {x : Array Value} {t : TypeId} (h : Rw T sz base w v n xs) (hb : w.heap[b]? = some (.cells x t (0, 0))) (ht : T ≠ t) : b ∉ blk v := fun hm => by
  obtain ⟨_, c, hc⟩ := h.block b hm
  exact ne_types hc hb ht rfl
theorem Rw.form (h : Rw T sz base w v n xs) : ∃ ao c, v = .slice ao n c := by
  rcases h.own.2 with ⟨rfl, h0⟩ | ⟨b, c, cur, rfl, _⟩
  · exact ⟨none, 0, by rw [h0]⟩
  · exact ⟨_, c, rfl⟩
theorem Rw.at (h : Rw T sz base w v n xs) (hn : 0 < n) (hsz : 0 < sz) : ∃ b c, v = .slice (some ⟨b, 0, none⟩) n c ∧ n ≤ c ∧ ∀ i, i < n * sz → w.cell? ⟨b, i, none⟩ = xs[i]? := by
  rcases h.own.2 with ⟨_, h0⟩ | ⟨b, c, cur, rfl, _, hb, h1, h2, h3, h4⟩
  · omega
  · refine ⟨b, c, rfl, h1, fun i hi => ?_⟩
    rw [cell_of_row hb, ← h4, List.getElem?_take_of_lt hi]
    simp
/-- Nothing older than the base turns where such a row does. -/
theorem Rw.old (h : Rw T sz base w v n xs) {w0 : World} (hb : base = w0.heap.size) (k0 : Kp [] w0 w) (k : Kp (blk v) w w') : Kp [] w0 w' :=
  ((k0.mono (by simp)).trans k).mono fun y hy hlt => by have := (h.block y hy).1; omega
theorem Rw.len (h : Rw T sz base w v n xs) : xs.length = n * sz := h.own.1
end

/-- 'append(v, news...)', its run. -/
theorem run_app {T t ty : TypeId} {sz base bytes : Nat} {w : World} {v : Value} {n : Nat} {xs : List Value} (ht : Try.prog.underlying t = some (.slice T)) (hi : ∃ i z, Try.prog.info? T = some i ∧ i.zero = some z ∧ i.size = sz ∧ i.bytes = bytes ∧ z.cells.size = sz) (hsz : 0 < sz)
    (h : Rw T sz base w v n xs) (hbase : base ≤ w.heap.size) (ad : Addr) (m c : Nat) (news : List Value) (hl : news.length = m * sz) (hnews : ∀ j u, news[j]? = some u → w.cell? (ad.add j) = some u) (h1 : ∀ u ∈ news, u.oneCell' = true) (hm : 0 < m)
    (hn : n + m ≤ 1000000) (hb : bytes ≤ 100) :
    ∃ g cap w', (Builtin.append_ #[t, t] ty #[v, .slice (some ad) m c]).run Try.prog w = .ok (.slice (some ⟨g, 0, none⟩) (n + m) cap) w' ∧ Rw T sz base w' (.slice (some ⟨g, 0, none⟩) (n + m) cap) (n + m) (xs ++ news) ∧ Kp (blk v) w w' ∧ (g ∈ blk v ∨ g = w.heap.size) := by
  obtain ⟨i, z, e1, e2, e3, e4, e5⟩ := hi
  have h63 : n + m ≤ maxLen := by unfold maxLen; omega
  have hby : (n + m) * bytes ≤ 140737488355328 := by
    have : (n + m) * bytes ≤ 1000000 * 100 := Nat.mul_le_mul hn hb
    omega
  obtain ⟨g, cap, w', hr, h2, h3, h4, _⟩ := run_append_lies (P := Try.prog) w t ty base T i z sz bytes ht e1 e2 e3 e4 e5 hsz v n xs h.own ad m c news hl hnews h1 hm h63 hby hbase _ rfl
  exact ⟨g, cap, w', hr, ⟨h2⟩, kp_of_row h3, h4.imp (fun e => by unfold blk; rw [e]; simp) id⟩


theorem info_byte : ∃ i z, Try.prog.info? 5 = some i ∧ i.zero = some z ∧ i.size = 1 ∧ i.bytes = 1 ∧ z.cells.size = 1 := by
  obtain ⟨i, hi, hz0, hz1, hz2⟩ := info_parts (show (Try.prog.info? 5).map (fun i => (i.zero, i.size, i.bytes)) = some (some (.int .u8 0), 1, 1) by kernel_rfl)
  exact ⟨i, _, hi, hz0, hz1, hz2, rfl⟩

/-- The same, of whatever length. -/
theorem run_app_any {T t ty : TypeId} {sz base bytes : Nat} {w : World} {v : Value} {n : Nat} {xs : List Value} (ht : Try.prog.underlying t = some (.slice T)) (hi : ∃ i z, Try.prog.info? T = some i ∧ i.zero = some z ∧ i.size = sz ∧ i.bytes = bytes ∧ z.cells.size = sz) (hsz : 0 < sz)
    (h : Rw T sz base w v n xs) (hbase : base ≤ w.heap.size) (ad : Addr) (m c : Nat) (news : List Value) (hl : news.length = m * sz) (hnews : ∀ j u, news[j]? = some u → w.cell? (ad.add j) = some u) (h1 : ∀ u ∈ news, u.oneCell' = true)
    (hn : n + m ≤ 1000000) (hb : bytes ≤ 100) :
    ∃ ao cap w', (Builtin.append_ #[t, t] ty #[v, .slice (some ad) m c]).run Try.prog w = .ok (.slice ao (n + m) cap) w' ∧ Rw T sz base w' (.slice ao (n + m) cap) (n + m) (xs ++ news) ∧ Kp (blk v) w w' := by
  obtain ⟨i, z, e1, e2, e3, e4, e5⟩ := hi
  have h63 : n + m ≤ maxLen := by unfold maxLen; omega
  have hby : (n + m) * bytes ≤ 140737488355328 := by
    have : (n + m) * bytes ≤ 1000000 * 100 := Nat.mul_le_mul hn hb
    omega
  obtain ⟨v', w', hr, h2, h3, _, _⟩ := run_append_own_at (P := Try.prog) w base t ty T i z sz bytes ht e1 e2 e3 e4 e5 hsz v n xs h.own ad m c news hl hnews h1 h63 hby hbase
  have hw : Rw T sz base w' v' (n + m) (xs ++ news) := ⟨h2⟩
  obtain ⟨ao, cap, rfl⟩ := hw.form
  exact ⟨ao, cap, w', hr, hw, kp_of_row h3⟩

/-- An 'append' whose run is known. -/
theorem wpList_append_eq {P : Program} {w w2 : World} {ops : Array Oper} {rest : List Oper} {o : Oper} {a : Act} {Q : Exit → Act → World → Prop} (hgd : o.guard = none) (s x : Operand) (t : TypeId)
    (ho : o.op = .call { callee := .builtin .append, args := #[s, x], argTypes := #[t, t] }) (sv xv v : Value) (hs : a.eval s = sv) (hx : a.eval x = xv)
    (hrun : (Builtin.append_ #[t, t] o.type #[sv, xv]).run P w = .ok v w2) (hK : wpList P ops Q rest (a.put o.dst v) w2) : wpList P ops Q (o :: rest) a w := by
  refine wpList_plain hgd fun K hK' => ?_
  unfold Oper.wp
  simp [execOp, ho, resolve, invoke, builtin, hs, hx, hrun, Result.andThen]
  exact hK' _ _ hK


end Go.Proofs.Ytdnlddjgjceogaa
