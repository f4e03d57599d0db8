/- AgentPlays, as stated: a byte, a row of rows of touches, a row of bytes, opened to their numbers; whatever they are, the law returns true and all that came in reads as it did. Conditions: none. Conditions: as each theorem states them. -/
import Derived.ProofKit
import Derived.ChangeOld
import Derived.OpenShut
import Derived.Carry
import Derived.Deep.Slices
import Derived.Deep.Fields
import Derived.ChangeSame
import Derived.Conc.LeavingOf
import Derived.Test.YtnbibpmhmffmpaaPa16
import Derived.Test.YtnbibpmhmffmpaaPa22
namespace Go.Proofs.Ytnbibpmhmffmpaa
set_option linter.unusedVariables false
set_option linter.unusedSimpArgs false
set_option maxRecDepth 100000
open Go.ChangeShapes Go.WideShapes Go.ChangeAt Go.RowKit Go.Deep Go.Conc

theorem us_spot {w : World} {a : Addr} {v : Value} (h : w.cell? a = some v) : a.spot = none := by
  unfold World.cell? at h
  split at h
  · split at h
    · cases h
    · rename_i hs
      simpa using hs
  · cases h
theorem us_getD {L : List Int} {i : Nat} {x : Int} (h : L[i]? = some x) : L.getD i 0 = x := by simp [List.getD, h]
theorem open_us {H : Type} {enc : TypeId × Value → H} {W : World} {base : Nat} {spare : Nat → Bool} {held : Bool} {v : Value} {d : DataW H} {p : List MemPlace} (hv : Value.okWide Try.prog W .any base 23 v) (h : DataW.Trod enc Try.prog W 0 spare held 23 v d p) :
    ∃ (ao : Option Addr) (cap : Nat) (R : List Int), v = .slice ao R.length cap ∧ UsY W ao R ∧ (ao = none → R = [] ∧ cap = 0) := by
  obtain ⟨fuel, hf⟩ := h
  obtain ⟨ao, l0, c0, rfl⟩ := okWide_slice Try.underlying23 hv
  rcases open_ints Try.underlying23 Try.underlying5 (by kernel_rfl) hf with ⟨hc, _⟩ | ⟨a, len, cap, ns, hcs, _, hl, hm, hlen, _, hcell, hwf⟩
  · have e : Value.slice ao l0 c0 = .slice none 0 0 := by simpa [Value.cells] using hc
    exact ⟨none, 0, [], by rw [e]; rfl, fun i x hi => by simp at hi, fun _ => ⟨rfl, rfl⟩⟩
  · have e : Value.slice ao l0 c0 = .slice (some a) len cap := by simpa [Value.cells] using hcs
    rw [e]
    have hlz : len ≤ ns.length := by rw [hlen]; split <;> omega
    have hlz2 : (ns.take len).length = len := by rw [List.length_take, Nat.min_eq_left hlz]
    refine ⟨some a, cap, ns.take len, by rw [hlz2], ?_, fun z => (by cases z)⟩
    · intro i x hi
      have hil : i < len := by have := (List.getElem?_eq_some_iff.1 hi).1; omega
      have h0 := hcell 0 (by omega)
      simp only [Addr.add, if_true] at h0
      have hsp := us_spot h0
      obtain ⟨b, o, sp⟩ := a
      simp only at hsp
      subst hsp
      have hi' := hcell i (by omega)
      rw [Addr.add_lit] at hi'
      have eg : ns.getD i 0 = x := by
        rw [← us_getD hi]
        simp [List.getD, hil]
      have hmem : ns.getD i 0 ∈ ns := by
        have : i < ns.length := by omega
        simp [List.getD, this]
      have hb := bounds_u8 (hwf _ hmem)
      rw [eg] at hi' hb
      exact ⟨b, o, rfl, hi', hb.1, hb.2⟩
theorem trodAll_ks {H : Type} {enc : TypeId × Value → H} {W W' : World} (hk : Ks (fun _ => False) W W') {ts : List TypeId} {vs : List Value} {ds : List (DataW H)} {ps : List MemPlace} (hr : typesRowed Try.prog ts = true) (h : DataW.TrodAll enc Try.prog W 0 (fun _ => true) true ts vs ds ps) (hlt : ∀ x ∈ ps, x.block < W.heap.size) :
    DataW.TrodAll enc Try.prog W' 0 (fun b => decide (b < W.heap.size)) true ts vs ds ps := by
  have hb : Below W.heap.size W {W' with tape := W.tape} := ⟨hk.os, rfl, hk.output, hk.size, fun k h => hk.block k h fun z => z⟩
  have h2 := trodAll_below (W' := {W' with tape := W.tape}) Try.laidOut hb hr h hlt
  have he : ({W' with tape := W.tape} : World).heap = W'.heap := rfl
  exact DataW.TrodAll.of_heap he h2
theorem Ks.kept0 {W W' : World} (k : Ks (fun _ => False) W W') (may : MemPlace → Prop) : W.keptBut W' may := by
  refine ⟨k.os, k.output, fun i hi => ?_⟩
  rw [k.block i hi fun z => z]
  split <;> simp_all

theorem list3 {α : Type} {l : List α} (h : l.length = 3) : ∃ a b c, l = [a, b, c] := by
  match l, h with
  | [a, b, c], _ => exact ⟨a, b, c, rfl⟩
theorem list1 {α : Type} {l : List α} (h : l.length = 1) : ∃ a, l = [a] := by
  match l, h with
  | [a], _ => exact ⟨a, rfl⟩
section
variable {H : Type} {enc : TypeId × Value → H} {W : World} {base : Nat} {spare : Nat → Bool} {held : Bool}
set_option maxRecDepth 100000 in
theorem open_touches {fuel : Nat} {cs : List Value} {y : DataW H × List MemPlace} (h : DataW.trod enc Try.prog W 0 spare held fuel 38 cs = some y) :
    ∃ p : Pr, cs = [p.v] ∧ Touches W p.ao p.l := by
  rcases open_slice Try.underlying38 h with ⟨hc, _⟩ | ⟨a, len, cap, m, n, D, Pl, hcs, hb, hl, hm, hmm, hx, hi⟩
  · exact ⟨⟨none, 0, []⟩, hc, fun i x hx => by simp at hx⟩
  · have hlm : len ≤ m := by rw [hmm]; split <;> omega
    have hC : Try.prog.cellsOf 48 = 3 := by kernel_rfl
    rw [hC] at hi
    have key : ∀ i, ∃ x : Tch, i < len → tchOk x ∧ ∃ b o, a = ⟨b, o, none⟩ ∧ W.cell? ⟨b, o + 3 * i, none⟩ = some (.int .u8 x.1) ∧ W.cell? ⟨b, o + 3 * i + 1, none⟩ = some (.int .i64 x.2.1) ∧ W.cell? ⟨b, o + 3 * i + 2, none⟩ = some (.int .u64 x.2.2) := by
      intro i
      by_cases hil : i < len
      · obtain ⟨cs', hc', ht'⟩ := hi i (by omega)
        obtain ⟨_, hcl, hat⟩ := World.cells?_some hc'
        obtain ⟨ys, n', _, hy, hlen, hyl, hfs⟩ := DataW.trod_struct Try.underlying48 ht'
        obtain ⟨q0, q1, q2, rfl⟩ := list3 hcl
        obtain ⟨z0, z1, z2, rfl⟩ := list3 (hyl.trans rfl)
        have hsp : a.spot = none := by
          obtain ⟨cs0, hc0, _⟩ := hi 0 (by omega)
          obtain ⟨_, hl0, hat0⟩ := World.cells?_some hc0
          obtain ⟨p0, p1, p2, rfl⟩ := list3 hl0
          have := hat0 0 (by omega)
          simp only [Nat.zero_mul, Addr.add, if_true] at this
          exact us_spot this
        obtain ⟨b, o, sp⟩ := a
        simp only at hsp
        subst hsp
        have k0 : DataW.trod enc Try.prog W 0 spare held n' 5 (([q0, q1, q2].drop 0).take (Try.prog.cellsOf 5)) = some z0 := hfs 0 _ rfl
        rw [show Try.prog.cellsOf 5 = 1 from by kernel_rfl] at k0
        have k1 : DataW.trod enc Try.prog W 0 spare held n' 3 (([q0, q1, q2].drop 1).take (Try.prog.cellsOf 3)) = some z1 := hfs 1 _ rfl
        rw [show Try.prog.cellsOf 3 = 1 from by kernel_rfl] at k1
        have k2 : DataW.trod enc Try.prog W 0 spare held n' 40 (([q0, q1, q2].drop 2).take (Try.prog.cellsOf 40)) = some z2 := hfs 2 _ rfl
        rw [show Try.prog.cellsOf 40 = 1 from by kernel_rfl] at k2
        obtain ⟨x0, e0, _, w0⟩ := DataW.trod_int Try.underlying5 k0
        obtain rfl : q0 = .int .u8 x0 := by simpa using e0
        obtain ⟨x1, e1, _, w1⟩ := DataW.trod_int Try.underlying3 k1
        obtain rfl : q1 = .int .i64 x1 := by simpa using e1
        obtain ⟨x2, e2, _, w2⟩ := DataW.trod_int Try.underlying40 k2
        obtain rfl : q2 = .int .u64 x2 := by simpa using e2
        have h0 := hat 0 (by omega)
        have h1 := hat 1 (by omega)
        have h2 := hat 2 (by omega)
        simp only [Addr.add_lit] at h0 h1 h2
        rw [Nat.mul_comm i 3] at h0 h1 h2
        exact ⟨(x0, x1, x2), fun _ => ⟨⟨(bounds_u8 w0).1, (bounds_u8 w0).2, (bounds_i64 w1).1, (by have := (bounds_i64 w1).2; show x1 < 9223372036854775808; omega), (bounds_u64 w2).1, (by have := (bounds_u64 w2).2; show x2 < 18446744073709551616; omega)⟩, b, o, rfl, h0, h1, h2⟩⟩
      · exact ⟨(0, 0, 0), fun h => absurd h hil⟩
    obtain ⟨f, hf'⟩ := Classical.skolem.1 key
    refine ⟨⟨some a, cap, (List.range len).map f⟩, by rw [hcs]; simp [Pr.v], ?_⟩
    intro i x hx'
    have hil : i < len := by
      have := (List.getElem?_eq_some_iff.1 hx').1
      simpa using this
    obtain rfl : f i = x := by simpa [hil] using hx'
    obtain ⟨h0, b, o, rfl, r⟩ := hf' i hil
    exact ⟨h0, b, o, rfl, r⟩
theorem open_progs {v : Value} {d : DataW H} {p : List MemPlace} (hv : Value.okWide Try.prog W .any base 22 v) (h : DataW.Trod enc Try.prog W 0 spare held 22 v d p) :
    ∃ (ao : Option Addr) (cap : Nat) (L : List Pr), v = .slice ao L.length cap ∧ Progs W ao L := by
  obtain ⟨fuel, hf⟩ := h
  obtain ⟨ao, l0, c0, rfl⟩ := okWide_slice Try.underlying22 hv
  rcases open_slice Try.underlying22 hf with ⟨hc, _⟩ | ⟨a, len, cap, m, n, D, Pl, hcs, hb, hl, hm, hmm, hx, hi⟩
  · have e : Value.slice ao l0 c0 = .slice none 0 0 := by simpa [Value.cells] using hc
    exact ⟨none, 0, [], by rw [e]; rfl, fun i x hx => by simp at hx⟩
  · have e : Value.slice ao l0 c0 = .slice (some a) len cap := by simpa [Value.cells] using hcs
    rw [e]
    have hlm : len ≤ m := by rw [hmm]; split <;> omega
    have hC : Try.prog.cellsOf 38 = 1 := by kernel_rfl
    rw [hC] at hi
    have key : ∀ i, ∃ x : Pr, i < len → Touches W x.ao x.l ∧ ∃ b o, a = ⟨b, o, none⟩ ∧ W.cell? ⟨b, o + i, none⟩ = some x.v := by
      intro i
      by_cases hil : i < len
      · obtain ⟨cs', hc', ht'⟩ := hi i (by omega)
        obtain ⟨_, hcl, hat⟩ := World.cells?_some hc'
        obtain ⟨pp, hpp, hT⟩ := open_touches ht'
        subst hpp
        have hsp : a.spot = none := by
          obtain ⟨cs0, hc0, _⟩ := hi 0 (by omega)
          obtain ⟨_, hl0, hat0⟩ := World.cells?_some hc0
          obtain ⟨p0, rfl⟩ := list1 hl0
          have := hat0 0 (by omega)
          simp only [Nat.zero_mul, Addr.add, if_true] at this
          exact us_spot this
        obtain ⟨b, o, sp⟩ := a
        simp only at hsp
        subst hsp
        have h0 := hat 0 (by omega)
        simp only [Addr.add_lit, Nat.mul_one, Nat.add_zero] at h0
        exact ⟨pp, fun _ => ⟨hT, b, o, rfl, h0⟩⟩
      · exact ⟨⟨none, 0, []⟩, fun h => absurd h hil⟩
    obtain ⟨f, hf'⟩ := Classical.skolem.1 key
    refine ⟨some a, cap, (List.range len).map f, by simp, ?_⟩
    intro i x hx'
    have hil : i < len := by
      have := (List.getElem?_eq_some_iff.1 hx').1
      simpa using this
    obtain rfl : f i = x := by simpa [hil] using hx'
    obtain ⟨h0, b, o, rfl, r⟩ := hf' i hil
    exact ⟨h0, b, o, rfl, r⟩
end

theorem agentPlays_lifted (os : Os) (started : os.Started) (H : Type) (enc : TypeId × Value → H) :
    ReturnsInLeavingWide {} Try.checked os 3 .any (Rows.agentPlaysSpec.pre6 enc Try.prog Try.f3 Rows.agentPlaysRow.domain false) (Rows.agentPlaysSpec.post enc Try.prog Try.f3 false true false false) := by
  refine returnsInLeavingWide_of_change_sized (C := Try.checked) Try.own started Try.func3
    (ChangeSpec.witness6 (enc := enc) (C := Try.checked) false ⟨#[], #[.int .u8 0, .slice none 0 0, .slice none 0 0], []⟩ 8 (by kernel_rfl) (by kernel_rfl) (by kernel_rfl) (by kernel_rfl)) ?_
  intro W base args ds gs before hval0 hW _ _ _
  have hval : ∀ (j : Nat) t v, Try.f3.params[j]? = some t → args[j]? = some v → Value.okWide Try.prog W .any base t v := hval0
  have hW' := hW
  obtain ⟨p, q, hA0, hV, rfl, hz, hnn⟩ := hW
  have hA : DataW.TrodAll enc Try.prog W 0 (fun _ => true) true Try.f3.params.toList args.toList ds p := hA0
  have hV' := hV
  obtain ⟨rfl, rfl⟩ := trodVars_none hV
  have hlt : ∀ x ∈ p, x.block < W.heap.size := fun x hx => DataW.Whole.lt (⟨p, [], hA0, hV', rfl, hz, hnn⟩ : DataW.Whole enc Try.prog _ _ false W args.toList ds [] (p ++ [])) x (by simpa using hx)
  rw [Try.params3] at hA hval
  have hA2 := hA
  obtain ⟨v0, v1, v2, d0, d1, d2, p0, p1, p2, rfl, rfl, rfl, h0, h1, h2⟩ := trodAll_three hA
  obtain ⟨wd0, rfl, rfl, rfl, wc⟩ := open_int Try.underlying5 (hval 0 5 v0 rfl rfl) h0
  obtain ⟨ao, ca, L, rfl, hL⟩ := open_progs (hval 1 22 v1 rfl rfl) h1
  obtain ⟨bo, co, O, rfl, hO, _⟩ := open_us (hval 2 23 v2 rfl rfl) h2
  obtain ⟨wd, rfl⟩ : ∃ wd : Nat, wd0 = wd := ⟨wd0.toNat, by have := (bounds_u8 wc).1; omega⟩
  clear hA0 hval0
  simp only [List.append_nil] at hW'
  obtain ⟨M, last, o, w', t', r1, r2, r3, r4⟩ := Win.runs (Post := fun v w' => v = .bool true ∧ Ks (fun _ => False) W w') (ap_walk (wd := wd) (cl := ca) (co := co) hL hO fun w' k => ⟨rfl, k⟩)
  refine ⟨M, last, o, w', t', r1, r2, r3, r4.mono fun v hF => ?_⟩
  obtain ⟨rfl, hk⟩ := hF
  exact ⟨_, _, _, [], _, [], hW', trodAll_mk1 (shut_bool Try.underlying4 _), trodAll_ks hk (by kernel_rfl) hA2 hlt, rfl, hk.kept0 _, fun h => by cases h⟩

/-- THE STATEMENT. -/
theorem agentPlays_holds : Rows.AgentPlaysSaid :=
  OpenClaim.holds_of_wide_leaving 3 Try.f3 rfl rfl rfl rfl rfl rfl rfl ⟨rfl, rfl, rfl, rfl, rfl⟩ rfl rfl rfl rfl rfl (by kernel_rfl) Try.func3 (by kernel_rfl)
    (of_decide_eq_true (by kernel_rfl)) (by unfold Func.isWrapper; first | (rw [if_pos (by decide +kernel)]; kernel_rfl) | (rw [if_neg (by decide +kernel)]; exact ⟨rfl, rfl⟩))
    (fun os started H enc _ => agentPlays_lifted os started H enc)
end Go.Proofs.Ytnbibpmhmffmpaa
