/- ArenaLast's pieces: its closure; the map of what was written last. Conditions: as each theorem states them. -/
import Derived.Test.YtpcoclbokpffaaaArnC
import Derived.Maps.Own
import Derived.Maps.OwnSet
import Derived.Maps.Views
import Derived.OpenShut
namespace Go.Proofs.Ytpcoclbokpffaaa
set_option linter.unusedVariables false
set_option linter.unusedSimpArgs false
open Go.RowKit Go.Maps

theorem f19 (x d k v : Int) (b : Nat) (w : World) (hb : w.heap[b]? = some (.cells #[.int .u8 d, .int .i64 k, .int .u64 v] 34 (0, 0))) :
    Calls Try.prog 19 #[.int .u64 x, .pointer (some ⟨b, 0, none⟩)] w fun e w2 => e = .returned (.int .u64 (bits BinOp.xor IntKind.u64 x v)) ∧ w2 = w := by
  have hc : w.cell? ⟨b, 2, none⟩ = some (.int .u64 v) := by rw [cell_of_row hb]; rfl
  clear hb
  go_enter Try.func19, Try.ntmps19
  go_wp2
  go_ret
  exact ⟨rfl, rfl⟩

/-- Block B is a map, of at most m entries, that has at each place what the arena has there (0 where there is none). -/
def Mp (w : World) (B m : Nat) (s : St) : Prop :=
  ∃ D : DataW Unit, w.ownsMap Try.prog 3 (plainElem Try.prog 29) B m D ∧ ∀ x : Int, (Lit.int .i64 x).wf = true → D.atKey (.int .i64 x) (.lit (.int .u64 0)) = .lit (.int .u64 (was s x))

theorem zeroE (w : World) : (zeroValue 29).run Try.prog w = .ok (.int .u64 0) w := by kernel_rfl

theorem Mp.look {w : World} {B m : Nat} {s : St} (h : Mp w B m s) {x : Int} (hx : (Lit.int .i64 x).wf = true) : (Instr.lookup 47 (.map (some B)) (.int .i64 x) false).run Try.prog w = .ok (.int .u64 (was s x)) w := by
  obtain ⟨D, ho, hd⟩ := h
  obtain ⟨c, hrun, hat, _⟩ := ho.lookup_int (int_keyed Try.underlying3) Try.underlying47 Try.underlying29 (zeroE w) (keyOf_int_mk Try.underlying3 hx)
  rw [hd x hx] at hat
  injection hat with h1
  injection h1 with h1 h2
  rw [hrun, h2]

theorem was_upd (s : St) (k y x : Int) (h : inB s k = true) : was (upd s k y) x = if x = k then y else was s x := by
  obtain ⟨h0, h1⟩ := inB_iff.1 h
  by_cases e : x = k
  · subst e
    rw [if_pos rfl, was_in (by rw [inB_upd]; exact h), upd_in h]
    have : x.toNat < s.ws.length := by omega
    simp [List.getD, this]
  · rw [if_neg e]
    unfold was
    rw [inB_upd]
    by_cases hx : inB s x = true
    · obtain ⟨g0, g1⟩ := inB_iff.1 hx
      rw [if_pos hx, if_pos hx, upd_in h]
      have : k.toNat ≠ x.toNat := by omega
      simp [List.getD, this]
    · rw [if_neg hx, if_neg hx]

theorem Mp.put {w : World} {B m : Nat} {s : St} (h : Mp w B m s) {k y : Int} (hk : (Lit.int .i64 k).wf = true) (hy : (Lit.int .u64 y).wf = true) (hin : inB s k = true) (hm : m ≤ 1000) :
    ∃ w', (Instr.mapUpdate 47 (.map (some B)) (.int .i64 k) (.int .u64 y)).run Try.prog w = .ok () w' ∧ Mp w' B (m + 1) (upd s k y) ∧ Kp [B] w w' := by
  obtain ⟨D, ho, hd⟩ := h
  obtain ⟨w', hrun, ho', hg⟩ := ho.update (int_keyed Try.underlying3) Try.underlying47 (by unfold maxLen; omega) (keyOf_int_mk Try.underlying3 hk) (plainElem_int (H := Unit) Try.underlying29 hy)
  refine ⟨w', hrun, ⟨_, ho', ?_⟩, (Kp.refl [B] w).grown hg (fun j hj => by cases hj; simp)⟩
  intro x hx
  rw [was_upd _ _ _ _ hin]
  by_cases e : x = k
  · subst e
    rw [if_pos rfl]
    exact atKey_put_same ho.isMap (by trivial) _ _
  · rw [if_neg e, atKey_put_other (by intro q; injection q with _ q; exact e q), hd x hx]

theorem Mp.same {w : World} {B m : Nat} {s s' : St} (h : Mp w B m s) (hs : ∀ x, was s' x = was s x) : Mp w B (m + 1) s' := by
  obtain ⟨D, ho, hd⟩ := h
  exact ⟨D, ho.mono (Nat.le_succ _), fun x hx => by rw [hd x hx, hs]⟩

theorem Mp.keep {w w' : World} {B m : Nat} {s : St} {S : List Nat} (h : Mp w B m s) (k : Kp S w w') (hB : B ∉ S) : Mp w' B m s := by
  obtain ⟨D, ⟨es, clock, hb, F, hs, hD⟩, hd⟩ := h
  exact ⟨D, ⟨es, clock, k.row hB hb, F, hs, hD⟩, hd⟩

theorem Mp.lt {w : World} {B m : Nat} {s : St} (h : Mp w B m s) : B < w.heap.size := by
  obtain ⟨D, ho, _⟩ := h
  exact ho.lt

theorem Mp.ne {w : World} {B m b : Nat} {s : St} {cs : Array Value} {t : TypeId} (h : Mp w B m s) (hb : w.heap[b]? = some (.cells cs t (0, 0))) : B ≠ b := by
  obtain ⟨D, ⟨es, clock, hm, _⟩, _⟩ := h
  intro e; subst e
  have := hm.symm.trans hb
  simp at this

end Go.Proofs.Ytpcoclbokpffaaa
