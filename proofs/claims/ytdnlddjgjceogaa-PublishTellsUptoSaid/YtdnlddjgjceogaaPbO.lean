/- Package publish: a slice of things that comes in, opened to its numbers; how long it is at most. Conditions: none. -/
import Derived.Test.YtdnlddjgjceogaaRows
import Derived.Test.YtdnlddjgjceogaaKeep
import Derived.Test.YtdnlddjgjceogaaLaw
import Derived.ProofKit
import Derived.Deep.Slices
import Derived.Deep.Fields
import Derived.ChangeSame
import Derived.OpenShut
namespace Go.Proofs.Ytdnlddjgjceogaa
set_option linter.unusedVariables false
set_option linter.unusedSimpArgs false
open Go.ChangeShapes Go.WideShapes Go.ChangeAt Go.RowKit Go.Deep

/-- A thing: a header's parts, three fields. -/
structure Tg where
  k : Int
  c : Int
  g : Bool
  m : Bool
  o : Int
  r : Int
  s : Int
  f0 : Int
  f1 : Int
  f2 : Int

def Tg.cs (x : Tg) : List Value := [.int .u8 x.k, .int .u8 x.c, .bool x.g, .bool x.m, .int .u8 x.o, .int .u8 x.r, .int .u8 x.s, .int .u8 x.f0, .int .u8 x.f1, .int .u8 x.f2]
def Tg.ok (x : Tg) : Prop := 0 ≤ x.k ∧ x.k ≤ 255 ∧ 0 ≤ x.c ∧ x.c ≤ 255 ∧ 0 ≤ x.o ∧ x.o ≤ 255 ∧ 0 ≤ x.r ∧ x.r ≤ 255 ∧ 0 ≤ x.s ∧ x.s ≤ 255 ∧ 0 ≤ x.f0 ∧ x.f0 ≤ 255 ∧ 0 ≤ x.f1 ∧ x.f1 ≤ 255 ∧ 0 ≤ x.f2 ∧ x.f2 ≤ 255
/-- The things that lie where a slice leads. -/
def Things (w : World) (ao : Option Addr) (L : List Tg) : Prop :=
  ∀ i x, L[i]? = some x → x.ok ∧ ∃ b o, ao = some ⟨b, o, none⟩ ∧ b < w.heap.size ∧ ∀ j v, x.cs[j]? = some v → w.cell? ⟨b, o + i * 10 + j, none⟩ = some v
theorem Things.keep {w w' : World} {ao : Option Addr} {L : List Tg} (h : Things w ao L) (k : Kp [] w w') : Things w' ao L := fun i x hx => by
  obtain ⟨h0, b, o, h1, h2, h3⟩ := h i x hx
  refine ⟨h0, b, o, h1, Nat.lt_of_lt_of_le h2 k.size, fun j v hj => ?_⟩
  rw [World.cell?_of_block (k.block b h2 (by simp))]
  exact h3 j v hj

theorem tspot_none {w : World} {a : Addr} {v : Value} (h : w.cell? a = some v) : a.spot = none := by
  unfold World.cell? at h
  split at h
  · split at h
    · cases h
    · rename_i hs
      simpa using hs
  · cases h
theorem tlist10 {α : Type} {l : List α} (h : l.length = 10) : ∃ a b c d e f g h i j, l = [a, b, c, d, e, f, g, h, i, j] := by
  match l, h with
  | [a, b, c, d, e, f, g, h, i, j], _ => exact ⟨a, b, c, d, e, f, g, h, i, j, rfl⟩
theorem tlist7 {α : Type} {l : List α} (h : l.length = 7) : ∃ a b c d e f g, l = [a, b, c, d, e, f, g] := by
  match l, h with
  | [a, b, c, d, e, f, g], _ => exact ⟨a, b, c, d, e, f, g, rfl⟩
theorem tlist3 {α : Type} {l : List α} (h : l.length = 3) : ∃ a b c, l = [a, b, c] := by
  match l, h with
  | [a, b, c], _ => exact ⟨a, b, c, rfl⟩
theorem tlist2 {α : Type} {l : List α} (h : l.length = 2) : ∃ a b, l = [a, b] := by
  match l, h with
  | [a, b], _ => exact ⟨a, b, rfl⟩

theorem bulk_one {H : Type} (d : DataW H) : 1 ≤ Rows.uptoBulk d := by
  cases d with
  | lit l => cases l <;> simp [Rows.uptoBulk]
  | nil => simp [Rows.uptoBulk]
  | ptr d => simp [Rows.uptoBulk]
  | slice elems spare => simp [Rows.uptoBulk]
  | agg parts => simp [Rows.uptoBulk]
  | iface t d => simp [Rows.uptoBulk]
  | map entries => simp [Rows.uptoBulk]
  | held h => simp [Rows.uptoBulk]
theorem bulk_part {H : Type} {d : DataW H} {l : List (DataW H)} (h : d ∈ l) : Rows.uptoBulk d ≤ Rows.uptoBulkAll l := by
  induction l with
  | nil => cases h
  | cons x r ih =>
    simp only [Rows.uptoBulkAll]
    cases List.mem_cons.1 h with
    | inl e => subst e; omega
    | inr e => have := ih e; omega
theorem bulk_length {H : Type} (l : List (DataW H)) : l.length ≤ Rows.uptoBulkAll l := by
  induction l with
  | nil => simp [Rows.uptoBulkAll]
  | cons x r ih => have := bulk_one x; simp only [Rows.uptoBulkAll, List.length_cons]; omega

section
variable {H : Type} {enc : TypeId × Value → H} {W : World} {base : Nat} {spare : Nat → Bool} {held : Bool}
set_option maxRecDepth 100000 in
theorem open_things {v : Value} {d : DataW H} {p : List MemPlace} (hv : Value.okWide Try.prog W .any base 22 v) (h : DataW.Trod enc Try.prog W 0 spare held 22 v d p) :
    ∃ (ao : Option Addr) (cap : Nat) (L : List Tg), v = .slice ao L.length cap ∧ L.length ≤ maxLen ∧ L.length ≤ Rows.uptoBulk d ∧ Things W ao L := by
  obtain ⟨fuel, hf⟩ := h
  obtain ⟨ao, l0, c0, rfl⟩ := okWide_slice Try.underlying22 hv
  rcases open_slice Try.underlying22 hf with ⟨hc, _⟩ | ⟨a, len, cap, m, n, D, Pl, hcs, hb, hl, hm, hmm, hx, hi⟩
  · have e : Value.slice ao l0 c0 = .slice none 0 0 := by simpa [Value.cells] using hc
    exact ⟨none, 0, [], by rw [e]; rfl, by unfold maxLen; simp, by simp, fun i x hx => by simp at hx⟩
  · have e : Value.slice ao l0 c0 = .slice (some a) len cap := by simpa [Value.cells] using hcs
    rw [e]
    have hlm : len ≤ m := by rw [hmm]; split <;> omega
    have hbk : len ≤ Rows.uptoBulk d := by
      have hd : d = .slice ((List.range len).map D) ((List.range (m - len)).map fun j => D (len + j)) := congrArg Prod.fst hx
      rw [hd]
      have := bulk_length ((List.range len).map D)
      simp only [List.length_map, List.length_range] at this
      simp only [Rows.uptoBulk]
      omega
    have hC : Try.prog.cellsOf 43 = 10 := by kernel_rfl
    rw [hC] at hi
    have key : ∀ i, ∃ x : Tg, i < len → x.ok ∧ ∃ b o, a = ⟨b, o, none⟩ ∧ b < W.heap.size ∧ ∀ j v, x.cs[j]? = some v → W.cell? ⟨b, o + i * 10 + j, none⟩ = some v := by
      intro i
      by_cases hil : i < len
      · obtain ⟨cs', hc', ht'⟩ := hi i (by omega)
        obtain ⟨_, hcl, hat⟩ := World.cells?_some hc'
        obtain ⟨ys, n', _, hy, hlen, hyl, hfs⟩ := DataW.trod_struct Try.underlying43 ht'
        obtain ⟨q0, q1, q2, q3, q4, q5, q6, q7, q8, q9, rfl⟩ := tlist10 hcl
        obtain ⟨y0, y1, rfl⟩ := tlist2 (hyl.trans rfl)
        have hsp : a.spot = none := by
          obtain ⟨cs0, hc0, _⟩ := hi 0 (by omega)
          obtain ⟨_, hl0, hat0⟩ := World.cells?_some hc0
          obtain ⟨p0, p1, p2, p3, p4, p5, p6, p7, p8, p9, rfl⟩ := tlist10 hl0
          have := hat0 0 (by omega)
          simp only [Nat.zero_mul, Addr.add, if_true] at this
          exact tspot_none this
        obtain ⟨b, o, sp⟩ := a
        simp only at hsp
        subst hsp
        have kH : DataW.trod enc Try.prog W 0 spare held n' 40 (([q0, q1, q2, q3, q4, q5, q6, q7, q8, q9].drop 0).take (Try.prog.cellsOf 40)) = some y0 := hfs 0 _ rfl
        have kF : DataW.trod enc Try.prog W 0 spare held n' 41 (([q0, q1, q2, q3, q4, q5, q6, q7, q8, q9].drop 7).take (Try.prog.cellsOf 41)) = some y1 := hfs 1 _ rfl
        rw [show Try.prog.cellsOf 40 = 7 from by kernel_rfl] at kH
        rw [show Try.prog.cellsOf 41 = 3 from by kernel_rfl] at kF
        obtain ⟨zs, n2, _, hz, hzl, hzyl, hzs⟩ := DataW.trod_struct Try.underlying40 kH
        obtain ⟨z0, z1, z2, z3, z4, z5, z6, rfl⟩ := tlist7 (hzyl.trans rfl)
        obtain ⟨us, n3, _, hu, hul, huyl, hus⟩ := DataW.trod_array Try.underlying41 kF
        obtain ⟨u0, u1, u2, rfl⟩ := tlist3 huyl
        rw [show Try.prog.cellsOf 5 = 1 from by kernel_rfl] at hus
        have k0 : DataW.trod enc Try.prog W 0 spare held n2 5 (([q0, q1, q2, q3, q4, q5, q6].drop 0).take (Try.prog.cellsOf 5)) = some z0 := hzs 0 _ rfl
        rw [show Try.prog.cellsOf 5 = 1 from by kernel_rfl] at k0
        have k1 : DataW.trod enc Try.prog W 0 spare held n2 5 (([q0, q1, q2, q3, q4, q5, q6].drop 1).take (Try.prog.cellsOf 5)) = some z1 := hzs 1 _ rfl
        rw [show Try.prog.cellsOf 5 = 1 from by kernel_rfl] at k1
        have k2 : DataW.trod enc Try.prog W 0 spare held n2 4 (([q0, q1, q2, q3, q4, q5, q6].drop 2).take (Try.prog.cellsOf 4)) = some z2 := hzs 2 _ rfl
        rw [show Try.prog.cellsOf 4 = 1 from by kernel_rfl] at k2
        have k3 : DataW.trod enc Try.prog W 0 spare held n2 4 (([q0, q1, q2, q3, q4, q5, q6].drop 3).take (Try.prog.cellsOf 4)) = some z3 := hzs 3 _ rfl
        rw [show Try.prog.cellsOf 4 = 1 from by kernel_rfl] at k3
        have k4 : DataW.trod enc Try.prog W 0 spare held n2 5 (([q0, q1, q2, q3, q4, q5, q6].drop 4).take (Try.prog.cellsOf 5)) = some z4 := hzs 4 _ rfl
        rw [show Try.prog.cellsOf 5 = 1 from by kernel_rfl] at k4
        have k5 : DataW.trod enc Try.prog W 0 spare held n2 5 (([q0, q1, q2, q3, q4, q5, q6].drop 5).take (Try.prog.cellsOf 5)) = some z5 := hzs 5 _ rfl
        rw [show Try.prog.cellsOf 5 = 1 from by kernel_rfl] at k5
        have k6 : DataW.trod enc Try.prog W 0 spare held n2 5 (([q0, q1, q2, q3, q4, q5, q6].drop 6).take (Try.prog.cellsOf 5)) = some z6 := hzs 6 _ rfl
        rw [show Try.prog.cellsOf 5 = 1 from by kernel_rfl] at k6
        have k7 : DataW.trod enc Try.prog W 0 spare held n3 5 (([q7, q8, q9].drop (0 * 1)).take 1) = some u0 := hus 0 (by omega)
        have k8 : DataW.trod enc Try.prog W 0 spare held n3 5 (([q7, q8, q9].drop (1 * 1)).take 1) = some u1 := hus 1 (by omega)
        have k9 : DataW.trod enc Try.prog W 0 spare held n3 5 (([q7, q8, q9].drop (2 * 1)).take 1) = some u2 := hus 2 (by omega)
        obtain ⟨x0, e0, _, w0⟩ := DataW.trod_int Try.underlying5 k0
        obtain rfl : q0 = .int .u8 x0 := by simpa using e0
        obtain ⟨x1, e1, _, w1⟩ := DataW.trod_int Try.underlying5 k1
        obtain rfl : q1 = .int .u8 x1 := by simpa using e1
        obtain ⟨x2, e2, _⟩ := DataW.trod_bool Try.underlying4 k2
        obtain rfl : q2 = .bool x2 := by simpa using e2
        obtain ⟨x3, e3, _⟩ := DataW.trod_bool Try.underlying4 k3
        obtain rfl : q3 = .bool x3 := by simpa using e3
        obtain ⟨x4, e4, _, w4⟩ := DataW.trod_int Try.underlying5 k4
        obtain rfl : q4 = .int .u8 x4 := by simpa using e4
        obtain ⟨x5, e5, _, w5⟩ := DataW.trod_int Try.underlying5 k5
        obtain rfl : q5 = .int .u8 x5 := by simpa using e5
        obtain ⟨x6, e6, _, w6⟩ := DataW.trod_int Try.underlying5 k6
        obtain rfl : q6 = .int .u8 x6 := by simpa using e6
        obtain ⟨x7, e7, _, w7⟩ := DataW.trod_int Try.underlying5 k7
        obtain rfl : q7 = .int .u8 x7 := by simpa using e7
        obtain ⟨x8, e8, _, w8⟩ := DataW.trod_int Try.underlying5 k8
        obtain rfl : q8 = .int .u8 x8 := by simpa using e8
        obtain ⟨x9, e9, _, w9⟩ := DataW.trod_int Try.underlying5 k9
        obtain rfl : q9 = .int .u8 x9 := by simpa using e9
        have h0 := hat 0 (by omega)
        simp only [Addr.add_lit, Nat.add_zero] at h0
        refine ⟨⟨x0, x1, x2, x3, x4, x5, x6, x7, x8, x9⟩, fun _ => ⟨⟨(bounds_u8 w0).1, (bounds_u8 w0).2, (bounds_u8 w1).1, (bounds_u8 w1).2, (bounds_u8 w4).1, (bounds_u8 w4).2, (bounds_u8 w5).1, (bounds_u8 w5).2, (bounds_u8 w6).1, (bounds_u8 w6).2, (bounds_u8 w7).1, (bounds_u8 w7).2, (bounds_u8 w8).1, (bounds_u8 w8).2, (bounds_u8 w9).1, (bounds_u8 w9).2⟩, b, o, rfl, block_lt_of_cell h0, fun j v hj => ?_⟩⟩
        have hj10 : j < 10 := by
          have := (List.getElem?_eq_some_iff.1 hj).1
          simpa [Tg.cs] using this
        have hh := hat j (by omega)
        simp only [Addr.add_lit] at hh
        rw [hh, ← hj]
        rfl
      · exact ⟨⟨0, 0, false, false, 0, 0, 0, 0, 0, 0⟩, fun h => absurd h hil⟩
    obtain ⟨f, hf'⟩ := Classical.skolem.1 key
    refine ⟨some a, cap, (List.range len).map f, by simp, by simp; omega, by simpa using hbk, ?_⟩
    intro i x hx'
    have hil : i < len := by
      have := (List.getElem?_eq_some_iff.1 hx').1
      simpa using this
    obtain rfl : f i = x := by simpa [hil] using hx'
    obtain ⟨h0, b, o, rfl, r⟩ := hf' i hil
    exact ⟨h0, b, o, rfl, r⟩
end

end Go.Proofs.Ytdnlddjgjceogaa
