/- ShadeOnce: the walk as a whole. Written by gen/so_u.py. Two closed facts on the program, that each law's frame names. Conditions: none. ShadeOnce, as stated: a row of headers, two rows of bytes, a byte, opened to their numbers; whatever they are, the law returns true and all that came in reads as it did. Conditions: none. Conditions: as each theorem states them. -/
import Derived.Test.YtnbibpmhmffmpaaRows
import Derived.ProofKit
import Derived.ChangeOld
import Derived.OpenShut
import Derived.Carry
import Derived.Deep.Slices
import Derived.Deep.Fields
import Derived.ChangeSame
import Derived.Conc.LeavingOf
import Derived.Test.YtnbibpmhmffmpaaPk15
import Derived.Test.YtnbibpmhmffmpaaPk19
import Derived.Test.YtnbibpmhmffmpaaPk21
namespace Go.Proofs.Ytnbibpmhmffmpaa
set_option linter.unusedVariables false
set_option linter.unusedSimpArgs false
set_option maxRecDepth 100000
open Go.RowKit
open Go.Conc
open Go.ConcN (upd_ne upd_same)

/-- Bytes that lie where a slice leads. -/
def Us (w : World) (ao : Option Addr) (L : List Int) : Prop := ∀ i x, L[i]? = some x → ∃ b o, ao = some ⟨b, o, none⟩ ∧ w.cell? ⟨b, o + i, none⟩ = some (.int .u8 x) ∧ 0 ≤ x ∧ x ≤ 255
/-- Headers that lie where a slice leads. -/
def Hds (w : World) (ao : Option Addr) (L : List Hd) : Prop := ∀ i x, L[i]? = some x → x.ok ∧ ∃ b o, ao = some ⟨b, o, none⟩ ∧ ∀ j v, x.cs[j]? = some v → w.cell? ⟨b, o + i * 7 + j, none⟩ = some v
theorem hds_priv (b o : Nat) (L : List Hd) : Priv (· = b) (fun w => 1 ≤ L.length ∧ HeadsAt w b o L) := by
  have hcell : ∀ (w : World) b', (1 ≤ L.length ∧ HeadsAt w b o L) → b' = b → ∃ v, w.cell? ⟨b', o + 0 * 7 + 0, none⟩ = some v := fun w b' h e => by
    subst e
    obtain ⟨_, hc⟩ := h.2 0 (L[0]'(by omega)) (by simp)
    exact ⟨_, hc 0 _ rfl⟩
  refine ⟨fun w w' h hb => ⟨h.1, fun i x hx => ⟨(h.2 i x hx).1, fun j v hj => by rw [World.cell?_of_block (hb b rfl)]; exact (h.2 i x hx).2 j v hj⟩⟩, fun w b' h e => ?_, fun w b' h e => ?_⟩
  · obtain ⟨v, hc⟩ := hcell w b' h e
    cases ho : w.heap[b']? with
    | none => rfl
    | some ob =>
      cases ob <;> first | rfl | (exfalso; simp [World.cell?, ho] at hc)
  · obtain ⟨v, hc⟩ := hcell w b' h e
    exact World.block_lt_of_cell? _ _ hc
theorem hd_bound {h : Hd} (ho : h.ok) (hm : h.may = true) : 0 ≤ h.w ∧ h.w < 18446744073709551616 := by
  obtain ⟨h1, h2, h3, h4, h5⟩ := ho
  have := word_lt h.k h.c h.o h.r h.s h.g h.m h1 h2 h3 h4 h5 hm
  unfold Hd.w
  omega

/-- THE WALK OF THE LAW. -/
theorem so_walk {Post : Value → World → Prop} {W : World} {L : List Hd} {D O : List Int} {ao dd bo : Option Addr} {ch cd co : Nat} {cc : Int} (hL : Hds W ao L) (hD : Us W dd D) (hO : Us W bo O) (hcc : 0 ≤ cc)
    (hPost : ∀ w', Ks (fun _ => False) W w' → Post (.bool true) w') :
    Win Try.prog Post (fun _ => none) 1 0 (gor (Frame.enter Try.prog 5 #[.slice ao L.length ch, .slice dd D.length cd, .slice bo O.length co, .int .u8 cc] .normal) []) W := by
  by_cases hbad : L.length < 1 ∨ 4 < L.length ∨ 4 < D.length ∨ D.length < 1 ∨ 100 < O.length ∨ 1 < cc
  · exact so_bad (fun _ => rfl) hbad hPost
  have hn1 : 1 ≤ L.length := by omega
  have hn4 : L.length ≤ 4 := by omega
  have hM1 : 1 ≤ D.length := by omega
  have hM4 : D.length ≤ 4 := by omega
  have hK : O.length ≤ 100 := by omega
  have hc1 : cc ≤ 1 := by omega
  obtain ⟨_, bh, oh, hao, _⟩ := hL 0 (L[0]'(by omega)) (by simp)
  subst hao
  obtain ⟨bd, od, hdd, _⟩ := hD 0 (D[0]'(by omega)) (by simp)
  subst hdd
  have hH : HeadsAt W bh oh L := fun i x hx => by
    obtain ⟨h1, b, o, h2, h3⟩ := hL i x hx
    cases h2
    exact ⟨h1, h3⟩
  have hds : ∀ i, i < D.length → W.cell? ⟨bd, od + i, none⟩ = some (.int .u8 ((fun j => D.getD j 0) i)) ∧ 0 ≤ (fun j => D.getD j 0) i ∧ (fun j => D.getD j 0) i ≤ 255 := fun i hi => by
    obtain ⟨b, o, h2, h3⟩ := hD i (D[i]) (by simp [hi])
    cases h2
    have e : D.getD i 0 = D[i] := by simp [List.getD, hi]
    show W.cell? ⟨bd, od + i, none⟩ = some (.int .u8 (D.getD i 0)) ∧ 0 ≤ D.getD i 0 ∧ D.getD i 0 ≤ 255
    rw [e]; exact h3
  have hor : ∀ i, i < O.length → ∃ bO oo d, bo = some ⟨bO, oo, none⟩ ∧ W.cell? ⟨bO, oo + i, none⟩ = some (.int .u8 d) ∧ 0 ≤ d ∧ d ≤ 255 := fun i hi => by
    obtain ⟨b, o, h2, h3⟩ := hO i (O[i]) (by simp [hi])
    exact ⟨b, o, _, h2, h3⟩
  cases hm : L.all Hd.may with
  | false => exact so_unfit (fun _ => rfl) (hds_priv bh oh L) ⟨hn1, hH⟩ (fun w h => h.2) rfl hn1 hn4 hM1 hM4 hK hc1 rfl hm hPost
  | true =>
    have hb : ∀ x ∈ L.map Hd.w, 0 ≤ x ∧ x < 18446744073709551616 := fun x hx => by
      obtain ⟨h, hh, rfl⟩ := List.mem_map.1 hx
      obtain ⟨i, hi, rfl⟩ := List.getElem_of_mem hh
      exact hd_bound (hH i _ (by simp [hi])).1 (List.all_eq_true.1 hm _ hh)
    refine so_made (hds_priv bh oh L) ⟨hn1, hH⟩ (fun w h => h.2) rfl hn1 hn4 hM1 hM4 hK hcc hc1 rfl hm hds fun bc pA rA bf be s ag va pl F col w x A hs ht l0 l1 l2 l3 l4 l5 hx => ?_
    refine so_mid A hx hn1 hn4 (by rw [hs, List.length_map]) fun bw w' x' A' hbw hge hcb hx' => ?_
    have A2 := A'.turns hs hn1 (by rw [hs, List.length_map]) hb hbw hcb
    exact so_loop3 hK hM1 hM4 hn4 hcc hc1 hor hds (fun bw σ pl F col w g s x A ht hx => so_last A.stops hx hM1 hM4 hPost) O.length 0 (by omega) bw _ pl F col w' _ s x' A2 (by omega) hx'
end Go.Proofs.Ytnbibpmhmffmpaa

namespace Go.Proofs.Ytnbibpmhmffmpaa

theorem Try.own : ownKnob Try.prog.godebug = none := by kernel_rfl
theorem Try.laidOut : laidOutB Try.prog = true := by kernel_rfl

end Go.Proofs.Ytnbibpmhmffmpaa

namespace Go.Proofs.Ytnbibpmhmffmpaa
set_option linter.unusedVariables false
set_option linter.unusedSimpArgs false
set_option maxRecDepth 100000
open Go.ChangeShapes Go.WideShapes Go.ChangeAt Go.RowKit Go.Deep Go.Conc

theorem us_spot {w : World} {a : Addr} {v : Value} (h : w.cell? a = some v) : a.spot = none := by
  unfold World.cell? at h
  split at h
  · split at h
    · cases h
    · rename_i hs
      simpa using hs
  · cases h
theorem us_getD {L : List Int} {i : Nat} {x : Int} (h : L[i]? = some x) : L.getD i 0 = x := by simp [List.getD, h]
theorem open_us {H : Type} {enc : TypeId × Value → H} {W : World} {base : Nat} {spare : Nat → Bool} {held : Bool} {v : Value} {d : DataW H} {p : List MemPlace} (hv : Value.okWide Try.prog W .any base 23 v) (h : DataW.Trod enc Try.prog W 0 spare held 23 v d p) :
    ∃ (ao : Option Addr) (cap : Nat) (R : List Int), v = .slice ao R.length cap ∧ Us W ao R ∧ (ao = none → R = [] ∧ cap = 0) := by
  obtain ⟨fuel, hf⟩ := h
  obtain ⟨ao, l0, c0, rfl⟩ := okWide_slice Try.underlying23 hv
  rcases open_ints Try.underlying23 Try.underlying5 (by kernel_rfl) hf with ⟨hc, _⟩ | ⟨a, len, cap, ns, hcs, _, hl, hm, hlen, _, hcell, hwf⟩
  · have e : Value.slice ao l0 c0 = .slice none 0 0 := by simpa [Value.cells] using hc
    exact ⟨none, 0, [], by rw [e]; rfl, fun i x hi => by simp at hi, fun _ => ⟨rfl, rfl⟩⟩
  · have e : Value.slice ao l0 c0 = .slice (some a) len cap := by simpa [Value.cells] using hcs
    rw [e]
    have hlz : len ≤ ns.length := by rw [hlen]; split <;> omega
    have hlz2 : (ns.take len).length = len := by rw [List.length_take, Nat.min_eq_left hlz]
    refine ⟨some a, cap, ns.take len, by rw [hlz2], ?_, fun z => (by cases z)⟩
    · intro i x hi
      have hil : i < len := by have := (List.getElem?_eq_some_iff.1 hi).1; omega
      have h0 := hcell 0 (by omega)
      simp only [Addr.add, if_true] at h0
      have hsp := us_spot h0
      obtain ⟨b, o, sp⟩ := a
      simp only at hsp
      subst hsp
      have hi' := hcell i (by omega)
      rw [Addr.add_lit] at hi'
      have eg : ns.getD i 0 = x := by
        rw [← us_getD hi]
        simp [List.getD, hil]
      have hmem : ns.getD i 0 ∈ ns := by
        have : i < ns.length := by omega
        simp [List.getD, this]
      have hb := bounds_u8 (hwf _ hmem)
      rw [eg] at hi' hb
      exact ⟨b, o, rfl, hi', hb.1, hb.2⟩
theorem trodAll_ks {H : Type} {enc : TypeId × Value → H} {W W' : World} (hk : Ks (fun _ => False) W W') {ts : List TypeId} {vs : List Value} {ds : List (DataW H)} {ps : List MemPlace} (hr : typesRowed Try.prog ts = true) (h : DataW.TrodAll enc Try.prog W 0 (fun _ => true) true ts vs ds ps) (hlt : ∀ x ∈ ps, x.block < W.heap.size) :
    DataW.TrodAll enc Try.prog W' 0 (fun b => decide (b < W.heap.size)) true ts vs ds ps := by
  have hb : Below W.heap.size W {W' with tape := W.tape} := ⟨hk.os, rfl, hk.output, hk.size, fun k h => hk.block k h fun z => z⟩
  have h2 := trodAll_below (W' := {W' with tape := W.tape}) Try.laidOut hb hr h hlt
  have he : ({W' with tape := W.tape} : World).heap = W'.heap := rfl
  exact DataW.TrodAll.of_heap he h2
theorem Ks.kept0 {W W' : World} (k : Ks (fun _ => False) W W') (may : MemPlace → Prop) : W.keptBut W' may := by
  refine ⟨k.os, k.output, fun i hi => ?_⟩
  rw [k.block i hi fun z => z]
  split <;> simp_all

theorem tlist7 {α : Type} {l : List α} (h : l.length = 7) : ∃ a b c d e f g, l = [a, b, c, d, e, f, g] := by
  match l, h with
  | [a, b, c, d, e, f, g], _ => exact ⟨a, b, c, d, e, f, g, rfl⟩
set_option maxRecDepth 100000 in
theorem open_heads {H : Type} {enc : TypeId × Value → H} {W : World} {base : Nat} {spare : Nat → Bool} {held : Bool} {v : Value} {d : DataW H} {p : List MemPlace} (hv : Value.okWide Try.prog W .any base 55 v) (h : DataW.Trod enc Try.prog W 0 spare held 55 v d p) :
    ∃ (ao : Option Addr) (cap : Nat) (L : List Hd), v = .slice ao L.length cap ∧ Hds W ao L := by
  obtain ⟨fuel, hf⟩ := h
  obtain ⟨ao, l0, c0, rfl⟩ := okWide_slice Try.underlying55 hv
  rcases open_slice Try.underlying55 hf with ⟨hc, _⟩ | ⟨a, len, cap, m, n, D, Pl, hcs, hb, hl, hm, hmm, hx, hi⟩
  · have e : Value.slice ao l0 c0 = .slice none 0 0 := by simpa [Value.cells] using hc
    exact ⟨none, 0, [], by rw [e]; rfl, fun i x hx => by simp at hx⟩
  · have e : Value.slice ao l0 c0 = .slice (some a) len cap := by simpa [Value.cells] using hcs
    rw [e]
    have hlm : len ≤ m := by rw [hmm]; split <;> omega
    have hC : Try.prog.cellsOf 59 = 7 := by kernel_rfl
    rw [hC] at hi
    have key : ∀ i, ∃ x : Hd, i < len → x.ok ∧ ∃ b o, a = ⟨b, o, none⟩ ∧ ∀ j v, x.cs[j]? = some v → W.cell? ⟨b, o + i * 7 + j, none⟩ = some v := by
      intro i
      by_cases hil : i < len
      · obtain ⟨cs', hc', ht'⟩ := hi i (by omega)
        obtain ⟨_, hcl, hat⟩ := World.cells?_some hc'
        obtain ⟨ys, n', _, hy, hlen, hyl, hfs⟩ := DataW.trod_struct Try.underlying59 ht'
        obtain ⟨q0, q1, q2, q3, q4, q5, q6, rfl⟩ := tlist7 hcl
        obtain ⟨z0, z1, z2, z3, z4, z5, z6, rfl⟩ := tlist7 (hyl.trans rfl)
        have hsp : a.spot = none := by
          obtain ⟨cs0, hc0, _⟩ := hi 0 (by omega)
          obtain ⟨_, hl0, hat0⟩ := World.cells?_some hc0
          obtain ⟨p0, p1, p2, p3, p4, p5, p6, rfl⟩ := tlist7 hl0
          have := hat0 0 (by omega)
          simp only [Nat.zero_mul, Addr.add, if_true] at this
          exact us_spot this
        obtain ⟨b, o, sp⟩ := a
        simp only at hsp
        subst hsp
        have k0 : DataW.trod enc Try.prog W 0 spare held n' 5 (([q0, q1, q2, q3, q4, q5, q6].drop 0).take (Try.prog.cellsOf 5)) = some z0 := hfs 0 _ rfl
        rw [show Try.prog.cellsOf 5 = 1 from by kernel_rfl] at k0
        have k1 : DataW.trod enc Try.prog W 0 spare held n' 5 (([q0, q1, q2, q3, q4, q5, q6].drop 1).take (Try.prog.cellsOf 5)) = some z1 := hfs 1 _ rfl
        rw [show Try.prog.cellsOf 5 = 1 from by kernel_rfl] at k1
        have k2 : DataW.trod enc Try.prog W 0 spare held n' 4 (([q0, q1, q2, q3, q4, q5, q6].drop 2).take (Try.prog.cellsOf 4)) = some z2 := hfs 2 _ rfl
        rw [show Try.prog.cellsOf 4 = 1 from by kernel_rfl] at k2
        have k3 : DataW.trod enc Try.prog W 0 spare held n' 4 (([q0, q1, q2, q3, q4, q5, q6].drop 3).take (Try.prog.cellsOf 4)) = some z3 := hfs 3 _ rfl
        rw [show Try.prog.cellsOf 4 = 1 from by kernel_rfl] at k3
        have k4 : DataW.trod enc Try.prog W 0 spare held n' 5 (([q0, q1, q2, q3, q4, q5, q6].drop 4).take (Try.prog.cellsOf 5)) = some z4 := hfs 4 _ rfl
        rw [show Try.prog.cellsOf 5 = 1 from by kernel_rfl] at k4
        have k5 : DataW.trod enc Try.prog W 0 spare held n' 5 (([q0, q1, q2, q3, q4, q5, q6].drop 5).take (Try.prog.cellsOf 5)) = some z5 := hfs 5 _ rfl
        rw [show Try.prog.cellsOf 5 = 1 from by kernel_rfl] at k5
        have k6 : DataW.trod enc Try.prog W 0 spare held n' 5 (([q0, q1, q2, q3, q4, q5, q6].drop 6).take (Try.prog.cellsOf 5)) = some z6 := hfs 6 _ rfl
        rw [show Try.prog.cellsOf 5 = 1 from by kernel_rfl] at k6
        obtain ⟨x0, e0, _, w0⟩ := DataW.trod_int Try.underlying5 k0
        obtain rfl : q0 = .int .u8 x0 := by simpa using e0
        obtain ⟨x1, e1, _, w1⟩ := DataW.trod_int Try.underlying5 k1
        obtain rfl : q1 = .int .u8 x1 := by simpa using e1
        obtain ⟨x2, e2, _⟩ := DataW.trod_bool Try.underlying4 k2
        obtain rfl : q2 = .bool x2 := by simpa using e2
        obtain ⟨x3, e3, _⟩ := DataW.trod_bool Try.underlying4 k3
        obtain rfl : q3 = .bool x3 := by simpa using e3
        obtain ⟨x4, e4, _, w4⟩ := DataW.trod_int Try.underlying5 k4
        obtain rfl : q4 = .int .u8 x4 := by simpa using e4
        obtain ⟨x5, e5, _, w5⟩ := DataW.trod_int Try.underlying5 k5
        obtain rfl : q5 = .int .u8 x5 := by simpa using e5
        obtain ⟨x6, e6, _, w6⟩ := DataW.trod_int Try.underlying5 k6
        obtain rfl : q6 = .int .u8 x6 := by simpa using e6
        refine ⟨⟨x0, x1, x2, x3, x4, x5, x6⟩, fun _ => ⟨⟨(bounds_u8 w0).1, (bounds_u8 w1).1, (bounds_u8 w4).1, (bounds_u8 w5).1, (bounds_u8 w6).1⟩, b, o, rfl, fun j v hj => ?_⟩⟩
        have hj7 : j < 7 := by
          have := (List.getElem?_eq_some_iff.1 hj).1
          simpa [Hd.cs] using this
        have hh := hat j (by omega)
        simp only [Addr.add_lit] at hh
        rw [hh, ← hj]
        rfl
      · exact ⟨⟨0, 0, false, false, 0, 0, 0⟩, fun h => absurd h hil⟩
    obtain ⟨f, hf'⟩ := Classical.skolem.1 key
    refine ⟨some a, cap, (List.range len).map f, by simp, ?_⟩
    intro i x hx'
    have hil : i < len := by
      have := (List.getElem?_eq_some_iff.1 hx').1
      simpa using this
    obtain rfl : f i = x := by simpa [hil] using hx'
    obtain ⟨h0, b, o, rfl, r⟩ := hf' i hil
    exact ⟨h0, b, o, rfl, r⟩

theorem shadeOnce_lifted (os : Os) (started : os.Started) (H : Type) (enc : TypeId × Value → H) :
    ReturnsInLeavingWide {} Try.checked os 5 .any (Rows.shadeOnceSpec.pre6 enc Try.prog Try.f5 Rows.shadeOnceRow.domain false) (Rows.shadeOnceSpec.post enc Try.prog Try.f5 false true false false) := by
  refine returnsInLeavingWide_of_change_sized (C := Try.checked) Try.own started Try.func5
    (ChangeSpec.witness6 (enc := enc) (C := Try.checked) false ⟨#[], #[.slice none 0 0, .slice none 0 0, .slice none 0 0, .int .u8 0], []⟩ 8 (by kernel_rfl) (by kernel_rfl) (by kernel_rfl) (by kernel_rfl)) ?_
  intro W base args ds gs before hval0 hW _ _ _
  have hval : ∀ (j : Nat) t v, Try.f5.params[j]? = some t → args[j]? = some v → Value.okWide Try.prog W .any base t v := hval0
  have hW' := hW
  obtain ⟨p, q, hA0, hV, rfl, hz, hnn⟩ := hW
  have hA : DataW.TrodAll enc Try.prog W 0 (fun _ => true) true Try.f5.params.toList args.toList ds p := hA0
  have hV' := hV
  obtain ⟨rfl, rfl⟩ := trodVars_none hV
  have hlt : ∀ x ∈ p, x.block < W.heap.size := fun x hx => DataW.Whole.lt (⟨p, [], hA0, hV', rfl, hz, hnn⟩ : DataW.Whole enc Try.prog _ _ false W args.toList ds [] (p ++ [])) x (by simpa using hx)
  rw [Try.params5] at hA hval
  have hA2 := hA
  obtain ⟨v0, v1, v2, v3, d0, d1, d2, d3, p0, p1, p2, p3, rfl, rfl, rfl, h0, h1, h2, h3⟩ := trodAll_four hA
  obtain ⟨ao, ca, L, rfl, hL⟩ := open_heads (hval 0 55 v0 rfl rfl) h0
  obtain ⟨dd, cb, D, rfl, hD, _⟩ := open_us (hval 1 23 v1 rfl rfl) h1
  obtain ⟨bo, co, O, rfl, hO, _⟩ := open_us (hval 2 23 v2 rfl rfl) h2
  obtain ⟨cc, rfl, rfl, rfl, wc⟩ := open_int Try.underlying5 (hval 3 5 v3 rfl rfl) h3
  clear hA0 hval0
  simp only [List.append_nil] at hW'
  obtain ⟨M, last, o, w', t', r1, r2, r3, r4⟩ := Win.runs (Post := fun v w' => v = .bool true ∧ Ks (fun _ => False) W w') (so_walk (ch := ca) (cd := cb) (co := co) hL hD hO (bounds_u8 wc).1 fun w' k => ⟨rfl, k⟩)
  refine ⟨M, last, o, w', t', r1, r2, r3, r4.mono fun v hF => ?_⟩
  obtain ⟨rfl, hk⟩ := hF
  exact ⟨_, _, _, [], _, [], hW', trodAll_mk1 (shut_bool Try.underlying4 _), trodAll_ks hk (by kernel_rfl) hA2 hlt, rfl, hk.kept0 _, fun h => by cases h⟩

/-- THE STATEMENT. -/
theorem shadeOnce_holds : Rows.ShadeOnceSaid :=
  OpenClaim.holds_of_wide_leaving 5 Try.f5 rfl rfl rfl rfl rfl rfl rfl ⟨rfl, rfl, rfl, rfl, rfl⟩ rfl rfl rfl rfl rfl (by kernel_rfl) Try.func5 (by kernel_rfl)
    (of_decide_eq_true (by kernel_rfl)) (by unfold Func.isWrapper; first | (rw [if_pos (by decide +kernel)]; kernel_rfl) | (rw [if_neg (by decide +kernel)]; exact ⟨rfl, rfl⟩))
    (fun os started H enc _ => shadeOnce_lifted os started H enc)
end Go.Proofs.Ytnbibpmhmffmpaa
