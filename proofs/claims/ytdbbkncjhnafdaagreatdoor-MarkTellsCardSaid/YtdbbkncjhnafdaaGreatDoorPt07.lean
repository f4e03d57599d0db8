/- The walks of package alloc: a cell by the first road that leads to one; an object in a cell. The walks of package alloc: an object in a cell; who is told of it. Plainly: sixteen objects of one word in an arena of one block, and none more. Conditions: none. The walks of package alloc: an object in a run of blocks. Makers, plainly, on: what the document makes is what the program makes. Conditions: as each theorem states them. -/
import Derived.Test.YtdbbkncjhnafdaaGreatDoorPt06
namespace Go.Proofs.YtdbbkncjhnafdaaGreatDoor
set_option linter.unusedVariables false
set_option linter.unusedSimpArgs false
set_option maxRecDepth 100000
open Go.RowKit

/-- The row of the three roads. -/
def rdC (T G n p q o : Nat) (wk : Bool) (hd : Value) : Array Value := #[.func (.func 160) #[mkV T G n p q o wk hd] #[], .func (.func 161) #[mkV T G n p q o wk hd] #[], .func (.func 162) #[mkV T G n p q o wk hd] #[]]

section
variable {T G n p r q t o a : Nat} {wk : Bool} {hd : Value} {vs vs' : Nat → Value} {H : List Int} {R : Nat → List Int} {w w0 wx wy : World}
set_option maxHeartbeats 16000000 in
theorem a_cell (h : Mw T G n p r q vs H R t w) (ht : t ≤ 400000) (ho : o < 64) (c : Nat) (hc : c < 4) :
    Calls Tryz.prog 139 #[mkV T G n p q o wk hd, .int .i64 c] w fun e w' => e = .returned (.tuple #[.int .i64 (((cellS T G n o wk c (H, R)).2).getD 0), .bool (cellS T G n o wk c (H, R)).2.isSome]) ∧ ∃ vs', Mw T G n p r q vs' (cellS T G n o wk c (H, R)).1.1 (cellS T G n o wk c (H, R)).1.2 (t + 38 * n + 20) w' ∧ Mk p r q vs vs' w w' := by
  have hf := h.fit
  have HR0 : Hid (∀ vs1 w1, Mw T G n p r q vs1 H R t w1 → Calls Tryz.prog 160 #[mkV T G n p q o wk hd, .int .i64 c] w1 fun e w' => e = .returned (.tuple #[.int .i64 (((popS (H, R) c).2).getD 0), .bool (popS (H, R) c).2.isSome]) ∧ ∃ vs', Mw T G n p r q vs' (popS (H, R) c).1.1 (popS (H, R) c).1.2 t w' ∧ Mk p r q vs1 vs' w1 w') :=
    Lib.hid fun vs1 w1 h1 => a_listed h1 c hc
  have HR1 : Hid (∀ vs1 w1, Mw T G n p r q vs1 (popS (H, R) c).1.1 (popS (H, R) c).1.2 t w1 → Calls Tryz.prog 161 #[mkV T G n p q o wk hd, .int .i64 c] w1 fun e w' => e = .returned (.tuple #[.int .i64 (((foundP T G n o c (popS (H, R) c).1).2).getD 0), .bool (foundP T G n o c (popS (H, R) c).1).2.isSome]) ∧ ∃ vs', Mw T G n p r q vs' (foundP T G n o c (popS (H, R) c).1).1.1 (foundP T G n o c (popS (H, R) c).1).1.2 (t + 33 * n) w' ∧ Mk p r q vs1 vs' w1 w') :=
    Lib.hid fun vs1 w1 h1 => a_found h1 (by omega) ho c hc
  have HR2 : Hid (∀ vs1 w1, Mw T G n p r q vs1 (foundP T G n o c (popS (H, R) c).1).1.1 (foundP T G n o c (popS (H, R) c).1).1.2 (t + 33 * n) w1 → Calls Tryz.prog 162 #[mkV T G n p q o wk hd, .int .i64 c] w1 fun e w' => e = .returned (.tuple #[.int .i64 (((carveS T G n o wk c (foundP T G n o c (popS (H, R) c).1).1).2).getD 0), .bool (carveS T G n o wk c (foundP T G n o c (popS (H, R) c).1).1).2.isSome]) ∧ ∃ vs', Mw T G n p r q vs' (carveS T G n o wk c (foundP T G n o c (popS (H, R) c).1).1).1.1 (carveS T G n o wk c (foundP T G n o c (popS (H, R) c).1).1).1.2 (t + 38 * n + 20) w' ∧ Mk p r q vs1 vs' w1 w') :=
    Lib.hid fun vs1 w1 h1 => (a_carved (o := o) (wk := wk) (hd := hd) h1 (by omega) ho c hc).mono fun e w' ⟨h2, v, h3, h4⟩ => ⟨h2, v, h3.more (by omega), h4⟩
  have HFin : Hid (cellS T G n o wk c (H, R) = if (popS (H, R) c).2.isSome then popS (H, R) c else if (foundP T G n o c (popS (H, R) c).1).2.isSome then foundP T G n o c (popS (H, R) c).1 else carveS T G n o wk c (foundP T G n o c (popS (H, R) c).1).1) := Lib.hid rfl
  generalize carveS T G n o wk c (foundP T G n o c (popS (H, R) c).1).1 = s3 at HR2 HFin
  generalize foundP T G n o c (popS (H, R) c).1 = s2 at HR1 HR2 HFin
  generalize popS (H, R) c = s1 at HR0 HR1 HFin
  generalize cellS T G n o wk c (H, R) = fin at HFin ⊢
  have HA0 : Hid (∃ vs', Mw T G n p r q vs' H R t ((mkW w T G n p q o wk hd).alloc (.cells (rdC T G n p q o wk hd) 178)) ∧ Mk p r q vs vs' w ((mkW w T G n p q o wk hd).alloc (.cells (rdC T G n p q o wk hd) 178)) ∧ ((mkW w T G n p q o wk hd).alloc (.cells (rdC T G n p q o wk hd) 178)).heap[w.heap.size + 1]? = some (.cells (rdC T G n p q o wk hd) 178 (0, 0))) := by
    have k : Kp [] w ((mkW w T G n p q o wk hd).alloc (.cells (rdC T G n p q o wk hd) 178)) := (mkW_kp w T G n p q o wk hd).alloc _
    refine Lib.hid ⟨vs, h.on k, Mk.of_kp k (by simp), ?_⟩
    have := heap_alloc_new (mkW w T G n p q o wk hd) (.cells (rdC T G n p q o wk hd) 178)
    rwa [show (mkW w T G n p q o wk hd).heap.size = w.heap.size + 1 from World.size_alloc _ _] at this
  unfold mkW mkC rdC at HA0
  clear h hf ht ho hc
  have hmf : ∀ (fn : Fn) (first cap : Array Value) (w : World), (Instr.makeFunc fn first cap).run Tryz.prog w = .ok (.func fn first cap) w := fun _ _ _ _ => rfl
  go_enter Tryz.func139, Tryz.ntmps139
  go_wp2_with fail
  go_loopg [18] 3 (fun gg v18 wr => (gg = 3 ∧ v18 = .int .i64 0 ∧ Hid (∃ vs', Mw T G n p r q vs' H R t wr ∧ Mk p r q vs vs' w wr ∧ wr.heap[w.heap.size + 1]? = some (.cells (rdC T G n p q o wk hd) 178 (0, 0)))) ∨ (gg = 2 ∧ v18 = .int .i64 1 ∧ Hid (∃ vs', Mw T G n p r q vs' s1.1.1 s1.1.2 t wr ∧ Mk p r q vs vs' w wr ∧ wr.heap[w.heap.size + 1]? = some (.cells (rdC T G n p q o wk hd) 178 (0, 0)) ∧ s1.2.isSome = false)) ∨ (gg = 1 ∧ v18 = .int .i64 2 ∧ Hid (∃ vs', Mw T G n p r q vs' s2.1.1 s2.1.2 (t + 33 * n) wr ∧ Mk p r q vs vs' w wr ∧ wr.heap[w.heap.size + 1]? = some (.cells (rdC T G n p q o wk hd) 178 (0, 0)) ∧ s1.2.isSome = false ∧ s2.2.isSome = false)) ∨ (gg = 0 ∧ v18 = .int .i64 3 ∧ Hid (∃ vs', Mw T G n p r q vs' s3.1.1 s3.1.2 (t + 38 * n + 20) wr ∧ Mk p r q vs vs' w wr ∧ wr.heap[w.heap.size + 1]? = some (.cells (rdC T G n p q o wk hd) 178 (0, 0)) ∧ s1.2.isSome = false ∧ s2.2.isSome = false ∧ s3.2.isSome = false)))
  case atStart => exact .inl ⟨rfl, rfl, HA0⟩
  case round =>
    rcases hrel with ⟨rfl, rfl, HA⟩ | ⟨rfl, rfl, HA⟩ | ⟨rfl, rfl, HA⟩ | ⟨rfl, rfl, HA⟩
    · obtain ⟨vs1, hM, hK, hrow⟩ := HA.out
      have HM := Lib.hid hM
      have HK := Lib.hid hK
      have HRow := Lib.hid hrow
      have c0 : wr.cell? ⟨w.heap.size + 1, 0, none⟩ = some (.func (.func 160) #[mkV T G n p q o wk hd] #[]) := cell_of_row hrow 0
      have HC := Lib.hid (HR0.out vs1 wr hM)
      clear hM hK hrow
      obtain ⟨u, hu⟩ : ∃ u, s1.2.isSome = u := ⟨_, rfl⟩
      rw [hu] at HC
      cases u
      · go_wp2_with fail
        refine HC.out.mono ?_
        rintro e w2 ⟨rfl, vs2, h2, h3⟩
        have F2 := Lib.hid (And.intro h2 (And.intro (HK.out.trans h3) (HM.out.row h3 HRow.out (by decide) (by decide) (by decide) (by decide))))
        clear h2 h3 c0
        go_wp2_with fail
        go_roundg 2
        case rel => exact .inr (.inl ⟨rfl, rfl, Lib.hid ⟨vs2, F2.out.1, F2.out.2.1, F2.out.2.2, hu⟩⟩)
        case measure => decide
      · have HFn : Hid (fin = s1) := Lib.hid (by rw [HFin.out]; simp [hu])
        go_wp2_with fail
        refine HC.out.mono ?_
        rintro e w2 ⟨rfl, vs2, h2, h3⟩
        have F2 := Lib.hid (And.intro h2 (HK.out.trans h3))
        clear h2 h3 c0
        go_wp2_with fail
        go_ret2
        exact ⟨by rw [HFn.out, hu]; rfl, by rw [HFn.out]; exact ⟨vs2, F2.out.1.more (by omega), F2.out.2⟩⟩
    · obtain ⟨vs1, hM, hK, hrow, n1⟩ := HA.out
      have HM := Lib.hid hM
      have HK := Lib.hid hK
      have HRow := Lib.hid hrow
      have c1 : wr.cell? ⟨w.heap.size + 1, 1, none⟩ = some (.func (.func 161) #[mkV T G n p q o wk hd] #[]) := cell_of_row hrow 1
      have HC := Lib.hid (HR1.out vs1 wr hM)
      clear hM hK hrow
      obtain ⟨u, hu⟩ : ∃ u, s2.2.isSome = u := ⟨_, rfl⟩
      rw [hu] at HC
      cases u
      · go_wp2_with fail
        refine HC.out.mono ?_
        rintro e w2 ⟨rfl, vs2, h2, h3⟩
        have F2 := Lib.hid (And.intro h2 (And.intro (HK.out.trans h3) (HM.out.row h3 HRow.out (by decide) (by decide) (by decide) (by decide))))
        clear h2 h3 c1
        go_wp2_with fail
        go_roundg 1
        case rel => exact .inr (.inr (.inl ⟨rfl, rfl, Lib.hid ⟨vs2, F2.out.1, F2.out.2.1, F2.out.2.2, n1, hu⟩⟩))
        case measure => decide
      · have HFn : Hid (fin = s2) := Lib.hid (by rw [HFin.out]; simp [hu, n1])
        go_wp2_with fail
        refine HC.out.mono ?_
        rintro e w2 ⟨rfl, vs2, h2, h3⟩
        have F2 := Lib.hid (And.intro h2 (HK.out.trans h3))
        clear h2 h3 c1
        go_wp2_with fail
        go_ret2
        exact ⟨by rw [HFn.out, hu]; rfl, by rw [HFn.out]; exact ⟨vs2, F2.out.1.more (by omega), F2.out.2⟩⟩
    · obtain ⟨vs1, hM, hK, hrow, n1, n2⟩ := HA.out
      have HM := Lib.hid hM
      have HK := Lib.hid hK
      have HRow := Lib.hid hrow
      have c2 : wr.cell? ⟨w.heap.size + 1, 2, none⟩ = some (.func (.func 162) #[mkV T G n p q o wk hd] #[]) := cell_of_row hrow 2
      have HC := Lib.hid (HR2.out vs1 wr hM)
      clear hM hK hrow
      obtain ⟨u, hu⟩ : ∃ u, s3.2.isSome = u := ⟨_, rfl⟩
      rw [hu] at HC
      cases u
      · go_wp2_with fail
        refine HC.out.mono ?_
        rintro e w2 ⟨rfl, vs2, h2, h3⟩
        have F2 := Lib.hid (And.intro h2 (And.intro (HK.out.trans h3) (HM.out.row h3 HRow.out (by decide) (by decide) (by decide) (by decide))))
        clear h2 h3 c2
        go_wp2_with fail
        go_roundg 0
        case rel => exact .inr (.inr (.inr ⟨rfl, rfl, Lib.hid ⟨vs2, F2.out.1, F2.out.2.1, F2.out.2.2, n1, n2, hu⟩⟩))
        case measure => decide
      · have HFn : Hid (fin = s3) := Lib.hid (by rw [HFin.out]; simp [hu, n1, n2])
        go_wp2_with fail
        refine HC.out.mono ?_
        rintro e w2 ⟨rfl, vs2, h2, h3⟩
        have F2 := Lib.hid (And.intro h2 (HK.out.trans h3))
        clear h2 h3 c2
        go_wp2_with fail
        go_ret2
        exact ⟨by rw [HFn.out, hu]; rfl, by rw [HFn.out]; exact ⟨vs2, F2.out.1.more (by omega), F2.out.2⟩⟩
    · have HFn : Hid (fin.2.isSome = false ∧ fin.2.getD 0 = 0 ∧ ∃ vs', Mw T G n p r q vs' fin.1.1 fin.1.2 (t + 38 * n + 20) wr ∧ Mk p r q vs vs' w wr) := by
        obtain ⟨vs1, hM, hK, hrow, n1, n2, n3⟩ := HA.out
        have hfin : fin = s3 := by rw [HFin.out]; simp [n1, n2]
        refine Lib.hid ⟨by rw [hfin]; exact n3, ?_, ⟨vs1, by rw [hfin]; exact hM, hK⟩⟩
        rw [hfin]
        cases hs : s3.2 with
        | none => rfl
        | some y => rw [hs] at n3; simp at n3
      go_wp2_with fail
      go_ret2
      exact ⟨by rw [HFn.out.1, HFn.out.2.1]; rfl, HFn.out.2.2⟩
end

end Go.Proofs.YtdbbkncjhnafdaaGreatDoor

namespace Go.Proofs.YtdbbkncjhnafdaaGreatDoor
set_option linter.unusedVariables false
set_option linter.unusedSimpArgs false
set_option maxRecDepth 100000
open Go.RowKit

/-- What makers turn, and who is told. -/
structure Mh (Sh : List Nat) (p r q : Nat) (vs vs' : Nat → Value) (w w' : World) : Prop where
  os : w'.os = w.os
  tape : w'.tape = w.tape
  output : w'.output = w.output
  size : w.heap.size ≤ w'.heap.size
  block : ∀ k, k < w.heap.size → k ≠ p → k ≠ r → k ≠ q → ¬ Li.Owns vs k → k ∉ Sh → w'.heap[k]? = w.heap[k]?
  own : ∀ g, Li.Owns vs' g → Li.Owns vs g ∨ w.heap.size ≤ g

/-- Blocks that are none of a maker's. -/
def Off (p r q : Nat) (vs : Nat → Value) (w : World) (b : Nat) : Prop := b < w.heap.size ∧ b ≠ p ∧ b ≠ r ∧ b ≠ q ∧ ¬ Li.Owns vs b ∧ b ≠ 0

/-- Who is told of a place: what it turns (Sh), what is so behind it (P). -/
structure HoldOk (T G n p r q o : Nat) (wk : Bool) (hd : Value) (vs : Nat → Value) (w : World) (Sh : List Nat) (P : Nat → World → Prop) : Prop where
  run : ∀ (a : Nat) vs' w1, Mk p r q vs vs' w w1 → a ≤ 5000 → Calls Tryz.prog 140 #[mkV T G n p q o wk hd, .int .i64 a] w1 fun e w' => e = .returned (.tuple #[]) ∧ Kp Sh w1 w' ∧ P a w'
  old : ∀ b ∈ Sh, Off p r q vs w b
  keep : ∀ a w1 w2, P a w1 → Kp [p, r] w1 w2 → P a w2

section
variable {T G n p r q t o a : Nat} {wk : Bool} {hd : Value} {vs vs' vs'' : Nat → Value} {H : List Int} {R : Nat → List Int} {w w0 w1 w2 wx wy : World} {Sh : List Nat} {P : Nat → World → Prop}
theorem Mh.of_mk (h : Mk p r q vs vs' w w1) : Mh Sh p r q vs vs' w w1 := ⟨h.os, h.tape, h.output, h.size, fun k hk h1 h2 h3 h4 _ => h.block k hk h1 h2 h3 h4, h.own⟩
theorem Mh.trans (h : Mh Sh p r q vs vs' w w1) (k : Mh Sh p r q vs' vs'' w1 w2) : Mh Sh p r q vs vs'' w w2 :=
  ⟨k.os.trans h.os, k.tape.trans h.tape, k.output.trans h.output, Nat.le_trans h.size k.size, fun i hi h1 h2 h3 h4 h5 => (k.block i (Nat.lt_of_lt_of_le hi h.size) h1 h2 h3 (fun e => by
    rcases h.own i e with q | q
    · exact h4 q
    · omega) h5).trans (h.block i hi h1 h2 h3 h4 h5), fun g hg => by
    rcases k.own g hg with q | q
    · exact h.own g q
    · exact .inr (Nat.le_trans h.size q)⟩
theorem Mh.of_kp (h : Kp Sh w w1) : Mh Sh p r q vs vs w w1 := ⟨h.os, h.tape, h.output, h.size, fun k hk _ _ _ _ h5 => h.block k hk h5, fun g hg => .inl hg⟩
theorem Mh.row (h : Mh Sh p r q vs vs' w w1) {g : Nat} (h1 : g ≠ p) (h2 : g ≠ r) (h3 : g ≠ q) (h4 : ¬ Li.Owns vs g) (h5 : g ∉ Sh) {o : Obj} (ho : w.heap[g]? = some o) : w1.heap[g]? = some o := (h.block g (lt_of_block ho) h1 h2 h3 h4 h5).trans ho
theorem Off.on {b : Nat} (h : Off p r q vs w b) (k : Mk p r q vs vs' w w1) : Off p r q vs' w1 b :=
  ⟨Nat.lt_of_lt_of_le h.1 k.size, h.2.1, h.2.2.1, h.2.2.2.1, fun e => by
    rcases k.own _ e with q | q
    · exact h.2.2.2.2.1 q
    · have := h.1; omega, h.2.2.2.2.2⟩
/-- What is so of who is told: of a place that was made; or nothing of it has turned. -/
def Tp (Sh : List Nat) (P : Nat → World → Prop) (X : Option Int) (w w' : World) : Prop := (∀ x, X = some x → P x.toNat w') ∧ (X = none → ∀ b ∈ Sh, b < w.heap.size → w'.heap[b]? = w.heap[b]?)
theorem Tp.pre {X : Option Int} (h : Tp Sh P X w1 w2) (k : Kp [] w w1) : Tp Sh P X w w2 := ⟨h.1, fun e b hb hl => (h.2 e b hb (Nat.lt_of_lt_of_le hl k.size)).trans (k.block b hl (by simp))⟩
theorem Tp.of_none {X : Option Int} (e : X = none) (hk : Mk p r q vs vs' w w1) (ho : ∀ b ∈ Sh, Off p r q vs w b) : Tp Sh P X w w1 := ⟨fun x hx => by rw [e] at hx; simp at hx, fun _ b hb hl => hk.block b hl (ho b hb).2.1 (ho b hb).2.2.1 (ho b hb).2.2.2.1 (ho b hb).2.2.2.2.1⟩
theorem Tp.of_some {X : Option Int} {y : Int} (e : X = some y) (hk : P y.toNat w1) : Tp Sh P X w w1 := ⟨fun x hx => by rw [e] at hx; obtain rfl := Option.some.inj hx; exact hk, fun hn => by rw [e] at hn; simp at hn⟩
/-- Who is told turns nothing of a maker's. -/
theorem Mw.told (h : Mw T G n p r q vs H R t w) (k : Kp Sh w w1) (hS : ∀ b ∈ Sh, Off p r q vs w b) : Mw T G n p r q vs H R t w1 := by
  obtain ⟨t0, ht0, hh⟩ := h.hw
  refine ⟨⟨t0, ht0, hh.keep k (fun e => (hS _ e).2.1 rfl) (fun e => (hS _ e).2.2.1 rfl)⟩, h.ls.keep k (fun e => (hS _ e).2.2.2.1 rfl) (fun g hg e => (hS _ e).2.2.2.2.1 hg), h.lk, h.sm, tab_keep h.tab k (fun e => (hS _ e).2.2.2.2.2 rfl), h.gn⟩
theorem HoldOk.on {w3 : World} (h : HoldOk T G n p r q o wk hd vs w Sh P) (k : Mk p r q vs vs' w w3) : HoldOk T G n p r q o wk hd vs' w3 Sh P :=
  ⟨fun a v2 w1 k1 ha => h.run a v2 w1 (k.trans k1) ha, fun b hb => (h.old b hb).on k, h.keep⟩

/-- What was popped has room. -/
theorem popS_fit {N c : Nat} {s : Hs} (hc : c < 4) (h : Lok N s.2) {x : Int} (hx : (popS s c).2 = some x) : 1 ≤ x ∧ x + Cl.wdC c ≤ N := by
  unfold popS at hx
  simp only at hx
  split at hx
  · rename_i he
    simp only [Option.some.injEq] at hx
    have := pop_mem hc he
    rw [hx] at this
    exact (h c hc).2 x this
  · simp at hx
theorem cellS_fit {N c : Nat} {s : Hs} (hc : c < 4) (hN : 3 + T + G + 33 * n ≤ N) (h : Lok N s.2) {x : Int} (hx : (cellS T G n o wk c s).2 = some x) : 1 ≤ x ∧ x + Cl.wdC c ≤ N := by
  have h1 : Lok N (popS s c).1.2 := h.pop c
  have h2 : Lok N (foundS T G n o c (popS s c).1 n).2 := foundS_ok hc hN h1 n (Nat.le_refl _)
  have h3 : Lok N (foundP T G n o c (popS s c).1).1.2 := h2.pop c
  unfold cellS at hx
  split at hx
  · exact popS_fit hc h hx
  split at hx
  · exact popS_fit hc h2 hx
  · unfold carveS at hx
    split at hx
    · simp at hx
    · rename_i b hb
      have hbn : b < n := by
        unfold claimH at hb
        split at hb
        · simp at hb
        · simp only at hb
          split at hb
          · simp only [Option.some.injEq] at hb; omega
          · simp at hb
      refine popS_fit hc ?_ hx
      unfold cutS
      exact pushS_ok hc hbn rfl hN h3 _ (Nat.le_refl _)

theorem carveS_len (c : Nat) (s : Hs) : (carveS T G n o wk c s).1.1.length = s.1.length := by
  unfold carveS
  split
  · rw [claimH_len, tidyH_len]
  · show (cutS T G n o c ((claimH n (tidyH T G n o wk s.1) 1).1, s.2) _).1.length = _
    unfold cutS
    simp only [List.length_set, markS_len, claimH_len, tidyH_len]
theorem cellS_len (c : Nat) (s : Hs) : (cellS T G n o wk c s).1.1.length = s.1.length := by
  unfold cellS
  have h2 : (foundP T G n o c (popS s c).1).1.1.length = s.1.length := by
    show (foundS T G n o c (popS s c).1 n).1.length = _
    rw [foundS_len]; rfl
  split
  · rfl
  split
  · exact h2
  · rw [carveS_len]; exact h2

/-- An object in a cell, plainly. -/
def smallS (T G n o : Nat) (wk : Bool) (c rf sz : Nat) (s : Hs) : Hs × Option Int :=
  match (cellS T G n o wk c s).2 with
  | none => cellS T G n o wk c s
  | some x => (((clearH (cellS T G n o wk c s).1.1 x.toNat sz).set x.toNat (Wd.wordI 2 0 o rf sz false false), (cellS T G n o wk c s).1.2), some x)
/-- Is there memory? -/
def erM (x : Option Int) : Int := if x.isSome then 0 else 7
theorem loc_may (o rf sz : Nat) (ho : o < 64) (h1 : rf ≤ sz) (h2 : sz ≤ 95) : Wd.mayB 2 0 o rf sz false false = true := by
  rw [Wd.mayB_iff]; simp; omega

set_option maxHeartbeats 16000000 in
theorem a_small (h : Mw T G n p r q vs H R t w) (ht : t ≤ 300000) (ho : o < 64) (c rf sz : Nat) (hc : c < 4) (hr : rf ≤ sz) (hs : sz ≤ 95) (hsz : (sz : Int) + 1 ≤ Cl.wdC c) (ho2 : HoldOk T G n p r q o wk hd vs w Sh P) :
    Calls Tryz.prog 101 #[mkV T G n p q o wk hd, .int .i64 c, .agg #[.int .u8 2, .int .u8 0, .bool false, .bool false, .int .u8 o, .int .u8 rf, .int .u8 sz]] w fun e w' => e = .returned (.tuple #[.int .i64 ((smallS T G n o wk c rf sz (H, R)).2.getD 0), .int .i64 (erM (smallS T G n o wk c rf sz (H, R)).2)]) ∧ ∃ vs', Mw T G n p r q vs' (smallS T G n o wk c rf sz (H, R)).1.1 (smallS T G n o wk c rf sz (H, R)).1.2 (t + 38 * n + 120) w' ∧ Mh Sh p r q vs vs' w w' ∧ Tp Sh P (smallS T G n o wk c rf sz (H, R)).2 w w' := by
  have hf := h.fit
  have hsm := h.sm
  have KB : Kp [] w ((mkW w T G n p q o wk hd).alloc (.cells #[.int .u8 2, .int .u8 0, .bool false, .bool false, .int .u8 o, .int .u8 rf, .int .u8 sz] 68)) := (mkW_kp w T G n p q o wk hd).alloc _
  have hz := World.size_alloc w (.cells (mkC T G n p q o wk hd) 135)
  have hfit := fun x => cellS_fit (o := o) (wk := wk) (s := (H, R)) (x := x) hc hf.1 h.lk
  have HCe : Hid (Calls Tryz.prog 139 #[mkV T G n p q o wk hd, .int .i64 c] ((mkW w T G n p q o wk hd).alloc (.cells #[.int .u8 2, .int .u8 0, .bool false, .bool false, .int .u8 o, .int .u8 rf, .int .u8 sz] 68)) fun e w' => e = .returned (.tuple #[.int .i64 (((cellS T G n o wk c (H, R)).2).getD 0), .bool (cellS T G n o wk c (H, R)).2.isSome]) ∧ ∃ vs', Mw T G n p r q vs' (cellS T G n o wk c (H, R)).1.1 (cellS T G n o wk c (H, R)).1.2 (t + 38 * n + 20) w' ∧ Mk p r q vs vs' w w' ∧ w'.heap[w.heap.size]? = some (.cells (mkC T G n p q o wk hd) 135 (0, 0)) ∧ w'.heap[w.heap.size + 1]? = some (.cells #[.int .u8 2, .int .u8 0, .bool false, .bool false, .int .u8 o, .int .u8 rf, .int .u8 sz] 68 (0, 0))) := by
    have h1 := h.on KB
    refine Lib.hid ((a_cell (o := o) (wk := wk) (hd := hd) h1 (by omega) ho c hc).mono ?_)
    rintro e w' ⟨rfl, vs2, h2, h3⟩
    refine ⟨rfl, vs2, h2, (Mk.of_kp KB (by simp)).trans h3, ?_, ?_⟩
    · exact h1.row h3 (((Kp.refl [] _).alloc _).row (by simp) (mkW_row w T G n p q o wk hd)) (by decide) (by decide) (by decide) (by decide)
    · refine h1.row h3 ?_ (by decide) (by decide) (by decide) (by decide)
      have := heap_alloc_new (mkW w T G n p q o wk hd) (.cells #[.int .u8 2, .int .u8 0, .bool false, .bool false, .int .u8 o, .int .u8 rf, .int .u8 sz] 68)
      rwa [show (mkW w T G n p q o wk hd).heap.size = w.heap.size + 1 from World.size_alloc _ _] at this
  have hcl := cellS_len (T := T) (G := G) (n := n) (o := o) (wk := wk) c (H, R)
  have HSm : Hid (smallS T G n o wk c rf sz (H, R) = match (cellS T G n o wk c (H, R)).2 with | none => cellS T G n o wk c (H, R) | some x => (((clearH (cellS T G n o wk c (H, R)).1.1 x.toNat sz).set x.toNat (Wd.wordI 2 0 o rf sz false false), (cellS T G n o wk c (H, R)).1.2), some x)) := Lib.hid rfl
  generalize smallS T G n o wk c rf sz (H, R) = fin at HSm ⊢
  generalize cellS T G n o wk c (H, R) = ce at HCe HSm hfit hcl
  obtain ⟨⟨Hc, Rc⟩, res⟩ := ce
  have HO := Lib.hid ho2
  have HFit := Lib.hid hfit
  have HSz := Lib.hid hsm
  have hcl : Hc.length = H.length := hcl
  have hwp := wd_pos hc
  have HWp := Lib.hid hwp
  have HN := Lib.hid (And.intro hf (And.intro ht (And.intro hsz (And.intro hr (And.intro hs ho)))))
  unfold mkW mkC at HCe
  have HCL := Lib.hid hcl
  clear h hf ht ho hc hr hs hsz ho2 hsm KB hz hfit hcl
  cases res with
  | none =>
    have hfin : fin = ((Hc, Rc), none) := HSm.out
    go_enter Tryz.func101, Tryz.ntmps101
    go_wp2_with fail
    refine HCe.out.mono ?_
    rintro e w1 ⟨rfl, vs1, h1, hk1, -, -⟩
    have F : Hid (((fin.2).getD 0 = 0) ∧ erM fin.2 = 7 ∧ ∃ vs', Mw T G n p r q vs' fin.1.1 fin.1.2 (t + 38 * n + 120) w1 ∧ Mh Sh p r q vs vs' w w1 ∧ Tp Sh P fin.2 w w1) := Lib.hid (by rw [hfin]; exact ⟨rfl, rfl, vs1, h1.more (by omega), Mh.of_mk hk1, Tp.of_none rfl hk1 HO.out.old⟩)
    clear h1 hk1 hfin
    go_wp2_with fail
    go_ret2
    exact ⟨by rw [F.out.1, F.out.2.1]; rfl, F.out.2.2⟩
  | some x =>
    have hx := HFit.out x rfl
    obtain ⟨k, rfl⟩ := Int.eq_ofNat_of_zero_le (show 0 ≤ x by omega)
    have hfin : fin = (((clearH Hc k sz).set k (Wd.wordI 2 0 o rf sz false false), Rc), some (k : Int)) := HSm.out
    have HK := Lib.hid hx
    clear hx
    have hk5 : k ≤ 5000 := by have := HN.out; have := HK.out; have := HSz.out; have := HWp.out; omega
    go_enter Tryz.func101, Tryz.ntmps101
    go_wp2_with fail
    refine HCe.out.mono ?_
    rintro e w1 ⟨rfl, vs1, h1, hk1, hrow1, hrowh⟩
    have HM1 := Lib.hid h1
    have HK1 := Lib.hid hk1
    have HR1 := Lib.hid (And.intro hrow1 hrowh)
    have HHo := Lib.hid (HO.out.run k vs1 w1 hk1 hk5)
    obtain ⟨r0, r1, r2, r3, r4, r5, r6, r7, -⟩ := ms_of (F := fun _ => True) (show w1.heap[w.heap.size]? = some (.cells (mkC T G n p q o wk hd) 135 (0, 0)) from hrow1) trivial
    clear h1 hk1 hrow1 hrowh
    go_wp2_with fail
    refine HHo.out.mono ?_
    rintro e w2 ⟨rfl, hk2, hP2⟩
    have hne1 : w.heap.size ∉ Sh := fun e => by have := (HO.out.old _ e).1; omega
    have hne2 : w.heap.size + 1 ∉ Sh := fun e => by have := (HO.out.old _ e).1; omega
    have hrow2 := hk2.row hne1 HR1.out.1
    have hrowh2 := hk2.row hne2 HR1.out.2
    have hM2 := HM1.out.told hk2 (fun b hb => (HO.out.old b hb).on HK1.out)
    have HM2 := Lib.hid (And.intro hM2 (And.intro ((Mh.of_mk (Sh := Sh) HK1.out).trans (Mh.of_kp hk2)) (And.intro hrow2 hrowh2)))
    have HP2 := Lib.hid hP2
    obtain ⟨r0', r1', r2', r3', r4', r5', r6', r7', -⟩ := ms_of (F := fun _ => True) hrow2 trivial
    have g0 := (cell_of_row hrowh2 0).trans (show _ = some (.int .u8 2) from rfl)
    have g1 := (cell_of_row hrowh2 1).trans (show _ = some (.int .u8 0) from rfl)
    have g2 := (cell_of_row hrowh2 2).trans (show _ = some (.bool false) from rfl)
    have g3 := (cell_of_row hrowh2 3).trans (show _ = some (.bool false) from rfl)
    have g4 := (cell_of_row hrowh2 4).trans (show _ = some (.int .u8 o) from rfl)
    have g5 := (cell_of_row hrowh2 5).trans (show _ = some (.int .u8 rf) from rfl)
    have g6 := (cell_of_row hrowh2 6).trans (show _ = some (.int .u8 sz) from rfl)
    have hap := hM2.apart hrow2 (by decide) (by decide) (by decide) (by decide)
    have haph := hM2.apart hrowh2 (by decide) (by decide) (by decide) (by decide)
    have HNe := Lib.hid (And.intro hap haph)
    have HCl := Lib.hid (a_clear (o := o) (wk := wk) (hd := hd) hM2 (by have := HN.out; omega) k sz (by have := HN.out; omega) (by have := HN.out; have := HK.out; have := HCL.out; omega) (.int .u8 2) (.int .u8 0) (.bool false) (.bool false) (.int .u8 o) (.int .u8 rf))
    clear hk2 hP2 hne1 hne2 hrow2 hrowh2 hM2 hap haph r0 r1 r2 r3 r4 r5 r6 r7
    go_wp2_with fail
    refine HCl.out.mono ?_
    rintro e w3 ⟨rfl, h3, hk3⟩
    have hrow3 := hk3.row (by have := HNe.out.1; simp; omega) HM2.out.2.2.1
    have hrowh3 := hk3.row (by have := HNe.out.2; simp; omega) HM2.out.2.2.2
    have HW := Lib.hid (a_write (o := o) (wk := wk) (hd := hd) h3 (by have := HN.out; omega) k (by rw [clearH_len]; have := HN.out; have := HK.out; have := HCL.out; omega) (k : Int) rfl 2 0 o rf sz false false (by decide) (by decide) (by omega) (by omega) (by omega) (loc_may o rf sz (by have := HN.out; omega) (by have := HN.out; omega) (by have := HN.out; omega)) _ rfl)
    have HM3 := Lib.hid (And.intro (HM2.out.2.1.trans (Mh.of_mk (Mk.of_kp hk3 (by simp)))) hk3)
    obtain ⟨r0, r1, r2, r3, r4, r5, r6, r7, -⟩ := ms_of (F := fun _ => True) hrow3 trivial
    have f0 := (cell_of_row hrowh3 0).trans (show _ = some (.int .u8 2) from rfl)
    have f1 := (cell_of_row hrowh3 1).trans (show _ = some (.int .u8 0) from rfl)
    have f2 := (cell_of_row hrowh3 2).trans (show _ = some (.bool false) from rfl)
    have f3 := (cell_of_row hrowh3 3).trans (show _ = some (.bool false) from rfl)
    have f4 := (cell_of_row hrowh3 4).trans (show _ = some (.int .u8 o) from rfl)
    have f5 := (cell_of_row hrowh3 5).trans (show _ = some (.int .u8 rf) from rfl)
    have f6 := (cell_of_row hrowh3 6).trans (show _ = some (.int .u8 sz) from rfl)
    clear h3 hk3 hrow3 hrowh3 r0' r1' r2' r3' r4' r5' r6' r7' g0 g1 g2 g3 g4 g5 g6
    generalize Wd.wordI 2 0 o rf sz false false = lx at HW hfin
    go_wp2_with fail
    refine HW.out.mono ?_
    rintro e w4 ⟨rfl, h4, hk4⟩
    have F : Hid (((fin.2).getD 0 = k) ∧ erM fin.2 = 0 ∧ ∃ vs', Mw T G n p r q vs' fin.1.1 fin.1.2 (t + 38 * n + 120) w4 ∧ Mh Sh p r q vs vs' w w4 ∧ Tp Sh P fin.2 w w4) := Lib.hid (by
      rw [hfin]
      refine ⟨rfl, rfl, vs1, h4.more (by have := HN.out; omega), HM3.out.1.trans (Mh.of_mk (Mk.of_kp hk4 (by simp))), Tp.of_some rfl ?_⟩
      exact HO.out.keep _ _ _ (HO.out.keep _ _ _ HP2.out HM3.out.2) hk4)
    clear h4 hk4 hfin f0 f1 f2 f3 f4 f5 f6 r0 r1 r2 r3 r4 r5 r6 r7
    go_wp2_with fail
    go_ret2
    exact ⟨by rw [F.out.1, F.out.2.1]; rfl, F.out.2.2⟩
end

end Go.Proofs.YtdbbkncjhnafdaaGreatDoor

namespace Go.Proofs.YtdbbkncjhnafdaaGreatDoor
set_option linter.unusedVariables false
set_option linter.unusedSimpArgs false
set_option maxRecDepth 100000
open Go.RowKit

/-- The arena of one block as it begins; behind its block's being cut; behind so many objects. -/
def H0 : List Int := (List.replicate 37 0).set 0 1
def L1 : Int := Wd.wordI 2 0 0 1 1 false false
def hs : Nat → List Int
  | 0 => (markS 1 0 1 0 0 0 ((List.replicate 37 0).set 0 0) 16).set 4 1
  | j + 1 => (clearH (hs j) (5 + 2 * j) 1).set (5 + 2 * j) L1
/-- The places on the list. -/
def rows (j : Nat) : List Int := (List.range (16 - j)).map fun i : Nat => 35 - 2 * (i : Int)
end Go.Proofs.YtdbbkncjhnafdaaGreatDoor

namespace Go.Proofs.YtdbbkncjhnafdaaGreatDoor
set_option linter.unusedVariables false
set_option linter.unusedSimpArgs false
set_option maxRecDepth 100000
open Go.RowKit

/-- A run, if need be out of what waited, plainly. -/
def blocksH (T G n o : Nat) (wk : Bool) (H : List Int) (run : Nat) : List Int × Option Nat :=
  if (claimH n H run).2.isSome || wk then claimH n H run else claimH n (tidyH T G n o wk (claimH n H run).1) run
def tailH (T G b : Nat) (H : List Int) : Nat → List Int
  | 0 => H
  | i + 1 => (tailH T G b H i).set (3 + T + G + (b + (1 + i))) 3
def largeS (T G n o : Nat) (wk : Bool) (run rf sz : Nat) (s : Hs) : Hs × Option Int :=
  match (blocksH T G n o wk s.1 run).2 with
  | none => (((blocksH T G n o wk s.1 run).1, s.2), none)
  | some b => ((((tailH T G b (clearH (blocksH T G n o wk s.1 run).1 (3 + T + G + n + 32 * b) sz) (run - 1)).set (3 + T + G + n + 32 * b) (Wd.wordI 2 0 o rf sz false false)).set (3 + T + G + b) (Tb.wordE 2 0 run o), s.2), some ((3 + T + G + n + 32 * b : Nat) : Int))

section
variable {T G n p r q t o a : Nat} {wk : Bool} {hd : Value} {vs vs' vs'' : Nat → Value} {H : List Int} {R : Nat → List Int} {w w0 w1 w2 wx wy : World} {Sh : List Nat} {P : Nat → World → Prop}
theorem tailH_len (b : Nat) (i : Nat) : (tailH T G b H i).length = H.length := by
  induction i with
  | zero => rfl
  | succ i ih => simp [tailH, ih]
theorem claimH_in {run b : Nat} (h : (claimH n H run).2 = some b) : b + run ≤ n := by
  unfold claimH at h
  split at h
  · simp at h
  · simp only at h
    split at h
    · simp only [Option.some.injEq] at h; omega
    · simp at h
theorem blocksH_len (run : Nat) : (blocksH T G n o wk H run).1.length = H.length := by
  unfold blocksH; split
  · exact claimH_len _
  · rw [claimH_len, tidyH_len, claimH_len]
theorem blocksH_in {run b : Nat} (h : (blocksH T G n o wk H run).2 = some b) : b + run ≤ n := by
  unfold blocksH at h; split at h
  · exact claimH_in h
  · exact claimH_in h

set_option maxHeartbeats 4000000 in
theorem a_blocks (h : Mw T G n p r q vs H R t w) (ht : t ≤ 500000) (run : Nat) (hr : 1 ≤ run ∧ run ≤ 3) :
    Calls Tryz.prog 144 #[mkV T G n p q o wk hd, .int .i64 run] w fun e w' => e = .returned (.tuple #[.int .i64 ((blocksH T G n o wk H run).2.getD 0 : Nat), .bool (blocksH T G n o wk H run).2.isSome]) ∧ Mw T G n p r q vs (blocksH T G n o wk H run).1 R (t + 5 * n + 2) w' ∧ Kp [p, r] w w' := by
  have hf := h.fit
  have hlt := h.lt
  have HC1 : Hid (Calls Tryz.prog 163 #[mkV T G n p q o wk hd, .int .i64 run] (mkW w T G n p q o wk hd) fun e w' => e = .returned (.tuple #[.int .i64 ((claimH n H run).2.getD 0 : Nat), .bool (claimH n H run).2.isSome]) ∧ Mw T G n p r q vs (claimH n H run).1 R (t + 1) w' ∧ Kp [p, r] w w' ∧ w'.heap[w.heap.size]? = some (.cells (mkC T G n p q o wk hd) 135 (0, 0))) := by
    refine Lib.hid ((a_claim (o := o) (wk := wk) (hd := hd) (h.on (mkW_kp w T G n p q o wk hd)) (by omega) run hr).mono ?_)
    rintro e w' ⟨rfl, h1, h2⟩
    exact ⟨rfl, h1, ((mkW_kp w T G n p q o wk hd).mono (by simp)).trans h2, h2.row (by simp; omega) (mkW_row w T G n p q o wk hd)⟩
  have HTi : Hid (∀ w1, Mw T G n p r q vs (claimH n H run).1 R (t + 1) w1 → Calls Tryz.prog 164 #[mkV T G n p q o wk hd] w1 fun e w' => e = .returned (.tuple #[]) ∧ Mw T G n p r q vs (tidyH T G n o wk (claimH n H run).1) R (t + 1 + 5 * n) w' ∧ Kp [p, r] w1 w') := Lib.hid fun w1 h1 => a_tidy h1 (by omega)
  have HC2 : Hid (∀ w1, Mw T G n p r q vs (tidyH T G n o wk (claimH n H run).1) R (t + 1 + 5 * n) w1 → Calls Tryz.prog 163 #[mkV T G n p q o wk hd, .int .i64 run] w1 fun e w' => e = .returned (.tuple #[.int .i64 ((claimH n (tidyH T G n o wk (claimH n H run).1) run).2.getD 0 : Nat), .bool (claimH n (tidyH T G n o wk (claimH n H run).1) run).2.isSome]) ∧ Mw T G n p r q vs (claimH n (tidyH T G n o wk (claimH n H run).1) run).1 R (t + 1 + 5 * n + 1) w' ∧ Kp [p, r] w1 w') := Lib.hid fun w1 h1 => a_claim h1 (by omega) run hr
  have HB : Hid (blocksH T G n o wk H run = if (claimH n H run).2.isSome || wk then claimH n H run else claimH n (tidyH T G n o wk (claimH n H run).1) run) := Lib.hid rfl
  have HNe : Hid (w.heap.size ≠ p ∧ w.heap.size ≠ r) := Lib.hid (by omega)
  generalize claimH n (tidyH T G n o wk (claimH n H run).1) run = c2 at HC2 HB
  generalize tidyH T G n o wk (claimH n H run).1 = H1 at HTi HC2
  generalize claimH n H run = c1 at HC1 HTi HB
  generalize blocksH T G n o wk H run = fin at HB ⊢
  unfold mkW at HC1
  clear h ht hf hlt hr
  obtain ⟨u, hu⟩ : ∃ u, c1.2.isSome = u := ⟨_, rfl⟩
  rw [hu] at HC1 HB
  have HU := Lib.hid hu
  clear hu
  go_enter Tryz.func144, Tryz.ntmps144
  have HC10 := HC1
  unfold mkC at HC10
  go_wp2_with fail
  refine HC10.out.mono ?_
  rintro e w1 ⟨rfl, h1, hk1, hrow1⟩
  have hrow : w1.heap[w.heap.size]? = some (.cells (mkC T G n p q o wk hd) 135 (0, 0)) := hrow1
  obtain ⟨r0, r1, r2, r3, r4, r5, r6, r7, -⟩ := ms_of (F := fun _ => True) hrow trivial
  have F1 := Lib.hid (And.intro h1 (And.intro hk1 hrow))
  clear h1 hk1 hrow1 hrow HC1 HC10
  cases u
  · cases wk
    · have hfin : fin = c2 := by rw [HB.out]; simp
      have HFin := Lib.hid hfin
      have HT1 := Lib.hid (HTi.out _ F1.out.1)
      clear hfin HB
      go_wp2_with fail
      refine HT1.out.mono ?_
      rintro e w2 ⟨rfl, h2, hk2⟩
      have hrow2 := hk2.row (by have := HNe.out; simp; omega) F1.out.2.2
      obtain ⟨s0, s1, s2, s3, s4, s5, s6, s7, -⟩ := ms_of (F := fun _ => True) hrow2 trivial
      have HC3 := Lib.hid (HC2.out _ h2)
      have K2 := Lib.hid (F1.out.2.1.trans hk2)
      clear h2 hk2 hrow2 r0 r1 r2 r3 r4 r5 r6 r7
      go_wp2_with fail
      refine HC3.out.mono ?_
      rintro e w3 ⟨rfl, h3, hk3⟩
      have F3 := Lib.hid (And.intro (h3.more (show t + 1 + 5 * n + 1 ≤ t + 5 * n + 2 by omega)) (K2.out.trans hk3))
      clear h3 hk3
      go_wp2_with fail
      go_ret2
      exact ⟨by rw [HFin.out]; rfl, by rw [HFin.out]; exact F3.out.1, F3.out.2⟩
    · have hfin : fin = c1 := by rw [HB.out]; simp
      have HFin := Lib.hid hfin
      clear hfin HB
      go_wp2_with fail
      go_ret2
      exact ⟨by rw [HFin.out, HU.out]; rfl, by rw [HFin.out]; exact F1.out.1.more (by omega), F1.out.2.1⟩
  · have hfin : fin = c1 := by rw [HB.out]; simp
    have HFin := Lib.hid hfin
    clear hfin HB
    go_wp2_with fail
    go_ret2
    exact ⟨by rw [HFin.out, HU.out]; rfl, by rw [HFin.out]; exact F1.out.1.more (by omega), F1.out.2.1⟩
theorem tail_may : Tb.mayE 3 0 0 0 = true := by decide
theorem head_may (run o : Nat) (hr : 1 ≤ run ∧ run ≤ 3) (ho : o < 64) : Tb.mayE 2 0 run o = true := by
  rw [Tb.mayE_iff]; omega
theorem run_room {sz run : Nat} (h : Cl.runC sz = run) (h9 : 9 ≤ sz) (h95 : sz ≤ 95) : 1 ≤ run ∧ run ≤ 3 ∧ sz + 1 ≤ 32 * run := by
  rcases Cl.run_ofs (sz : Int) with h1 | h1 | h1 | h1 | h1 <;> omega

set_option maxHeartbeats 1000000 in
theorem a_large (h : Mw T G n p r q vs H R t w) (ht : t ≤ 300000) (ho : o < 64) (run rf sz : Nat) (hrun : Cl.runC sz = run) (hr : rf ≤ sz) (h9 : 9 ≤ sz) (h95 : sz ≤ 95) (ho2 : HoldOk T G n p r q o wk hd vs w Sh P) :
    Calls Tryz.prog 102 #[mkV T G n p q o wk hd, .agg #[.int .u8 2, .int .u8 0, .bool false, .bool false, .int .u8 o, .int .u8 rf, .int .u8 sz]] w fun e w' => e = .returned (.tuple #[.int .i64 ((largeS T G n o wk run rf sz (H, R)).2.getD 0), .int .i64 (erM (largeS T G n o wk run rf sz (H, R)).2)]) ∧ ∃ vs', Mw T G n p r q vs' (largeS T G n o wk run rf sz (H, R)).1.1 (largeS T G n o wk run rf sz (H, R)).1.2 (t + 5 * n + 110) w' ∧ Mh Sh p r q vs vs' w w' ∧ Tp Sh P (largeS T G n o wk run rf sz (H, R)).2 w w' := by
  have hf := h.fit
  have hsm := h.sm
  have hrm := run_room hrun h9 h95
  have KB : Kp [] w ((mkW w T G n p q o wk hd).alloc (.cells #[.int .u8 2, .int .u8 0, .bool false, .bool false, .int .u8 o, .int .u8 rf, .int .u8 sz] 68)) := (mkW_kp w T G n p q o wk hd).alloc _
  have HRn : Hid (∀ w, Calls Tryz.prog 143 #[.int .i64 sz] w fun e w' => e = .returned (.tuple #[.int .i64 run, .bool true]) ∧ w = w') := by
    refine Lib.hid fun w => ?_
    have := Cl.run_is w sz run hrun
    rwa [show decide (0 < (run : Int)) = true from by simp; omega] at this
  have hrowk : ((mkW w T G n p q o wk hd).alloc (.cells #[.int .u8 2, .int .u8 0, .bool false, .bool false, .int .u8 o, .int .u8 rf, .int .u8 sz] 68)).heap[w.heap.size]? = some (.cells (mkC T G n p q o wk hd) 135 (0, 0)) := ((Kp.refl [] _).alloc _).row (by simp) (mkW_row w T G n p q o wk hd)
  have hrowh : ((mkW w T G n p q o wk hd).alloc (.cells #[.int .u8 2, .int .u8 0, .bool false, .bool false, .int .u8 o, .int .u8 rf, .int .u8 sz] 68)).heap[w.heap.size + 1]? = some (.cells #[.int .u8 2, .int .u8 0, .bool false, .bool false, .int .u8 o, .int .u8 rf, .int .u8 sz] 68 (0, 0)) := by
    have := heap_alloc_new (mkW w T G n p q o wk hd) (.cells #[.int .u8 2, .int .u8 0, .bool false, .bool false, .int .u8 o, .int .u8 rf, .int .u8 sz] 68)
    rwa [show (mkW w T G n p q o wk hd).heap.size = w.heap.size + 1 from World.size_alloc _ _] at this
  have h1 := h.on KB
  have hap := h1.apart hrowk (by decide) (by decide) (by decide) (by decide)
  have haph := h1.apart hrowh (by decide) (by decide) (by decide) (by decide)
  have HNe := Lib.hid (And.intro hap haph)
  have hlt := h.lt
  have HBl : Hid (Calls Tryz.prog 144 #[mkV T G n p q o wk hd, .int .i64 run] ((mkW w T G n p q o wk hd).alloc (.cells #[.int .u8 2, .int .u8 0, .bool false, .bool false, .int .u8 o, .int .u8 rf, .int .u8 sz] 68)) fun e w' => e = .returned (.tuple #[.int .i64 ((blocksH T G n o wk H run).2.getD 0 : Nat), .bool (blocksH T G n o wk H run).2.isSome]) ∧ Mw T G n p r q vs (blocksH T G n o wk H run).1 R (t + 5 * n + 2) w' ∧ Kp [p, r] w w' ∧ w'.heap[w.heap.size]? = some (.cells (mkC T G n p q o wk hd) 135 (0, 0)) ∧ w'.heap[w.heap.size + 1]? = some (.cells #[.int .u8 2, .int .u8 0, .bool false, .bool false, .int .u8 o, .int .u8 rf, .int .u8 sz] 68 (0, 0))) := by
    refine Lib.hid ((a_blocks (o := o) (wk := wk) (hd := hd) h1 (by omega) run (by omega)).mono ?_)
    rintro e w' ⟨rfl, h2, h3⟩
    exact ⟨rfl, h2, (KB.mono (by simp)).trans h3, h3.row (by simp; omega) hrowk, h3.row (by simp; omega) hrowh⟩
  have HIn : Hid (∀ b, (blocksH T G n o wk H run).2 = some b → b + run ≤ n) := Lib.hid fun b hb => blocksH_in hb
  have hlen := blocksH_len (T := T) (G := G) (n := n) (o := o) (wk := wk) (H := H) run
  have HLg : Hid (largeS T G n o wk run rf sz (H, R) = match (blocksH T G n o wk H run).2 with
    | none => (((blocksH T G n o wk H run).1, R), none)
    | some b => ((((tailH T G b (clearH (blocksH T G n o wk H run).1 (3 + T + G + n + 32 * b) sz) (run - 1)).set (3 + T + G + n + 32 * b) (Wd.wordI 2 0 o rf sz false false)).set (3 + T + G + b) (Tb.wordE 2 0 run o), R), some ((3 + T + G + n + 32 * b : Nat) : Int))) := Lib.hid rfl
  generalize largeS T G n o wk run rf sz (H, R) = fin at HLg ⊢
  generalize (blocksH T G n o wk H run).1 = Hc at HBl HLg hlen
  generalize (blocksH T G n o wk H run).2 = res at HBl HLg HIn
  have HO := Lib.hid ho2
  have HN := Lib.hid (And.intro hf (And.intro ht (And.intro hrm (And.intro hr (And.intro h95 (And.intro ho (And.intro hsm hlen)))))))
  unfold mkW mkC at HBl
  have hr3 := hrm
  clear h hf ht ho hrun hr h9 h95 ho2 hsm hrm KB hrowk hrowh h1 hap haph hlen
  cases res with
  | none =>
    have hfin : fin = ((Hc, R), none) := HLg.out
    go_enter Tryz.func102, Tryz.ntmps102
    go_wp2_with fail
    refine (HRn.out _).mono ?_
    rintro e w0 ⟨rfl, rfl⟩
    go_wp2_with fail
    refine HBl.out.mono ?_
    rintro e w1 ⟨rfl, h1, hk1, -, -⟩
    have F : Hid (((fin.2).getD 0 = 0) ∧ erM fin.2 = 7 ∧ ∃ vs', Mw T G n p r q vs' fin.1.1 fin.1.2 (t + 5 * n + 110) w1 ∧ Mh Sh p r q vs vs' w w1 ∧ Tp Sh P fin.2 w w1) := Lib.hid (by rw [hfin]; exact ⟨rfl, rfl, vs, h1.more (by omega), Mh.of_mk (Mk.of_kp hk1 (by simp)), Tp.of_none rfl (Mk.of_kp (vs := vs) hk1 (by simp)) HO.out.old⟩)
    clear h1 hk1 hfin
    go_wp2_with fail
    go_ret2
    exact ⟨by rw [F.out.1, F.out.2.1]; rfl, F.out.2.2⟩
  | some b =>
    have hb := HIn.out b rfl
    have HBn := Lib.hid hb
    have hSt : Hid (∀ w, Calls Tryz.prog 77 #[.agg #[.int .i64 T, .int .i64 G, .int .i64 n], .int .i64 b] w fun e w' => e = .returned (.int .i64 ((3 + T + G + n + 32 * b : Nat) : Int)) ∧ Kp [] w w') := Lib.hid (fun w => Ly.start_is T G n b ((3 + T + G + n + 32 * b : Nat) : Int) w (by have := HN.out; rw [Ly.rowP_in (by omega) (by omega)]; omega) (by omega) (by have := HN.out; omega) (by omega) (by have := HN.out; omega) (by omega) (by have := HN.out; omega))
    have hfit : 3 + T + G + n + 32 * b + sz < H.length := by have := HN.out; omega
    have HFit := Lib.hid hfit
    have HLg2 : Hid (fin = ((((tailH T G b (clearH Hc (3 + T + G + n + 32 * b) sz) (run - 1)).set (3 + T + G + n + 32 * b) (Wd.wordI 2 0 o rf sz false false)).set (3 + T + G + b) (Tb.wordE 2 0 run o), R), some ((3 + T + G + n + 32 * b : Nat) : Int))) := HLg
    generalize 3 + T + G + n + 32 * b = k at hSt HFit HLg2 hfit
    have hk5 : k ≤ 5000 := by have := HN.out; omega
    clear HLg hfit
    go_enter Tryz.func102, Tryz.ntmps102
    go_wp2_with fail
    refine (HRn.out _).mono ?_
    rintro e w0 ⟨rfl, rfl⟩
    go_wp2_with fail
    refine HBl.out.mono ?_
    rintro e w1 ⟨rfl, h1, hk1, hrow1, hrowh1⟩
    have hrow1' : w1.heap[w.heap.size]? = some (.cells (mkC T G n p q o wk hd) 135 (0, 0)) := hrow1
    have F1 := Lib.hid (And.intro h1 (And.intro hk1 (And.intro hrow1' hrowh1)))
    obtain ⟨r0, r1, r2, r3, r4, r5, r6, r7, -⟩ := ms_of (F := fun _ => True) hrow1' trivial
    clear h1 hk1 hrow1 hrow1' hrowh1 HBl
    go_wp2_with fail
    refine (hSt.out _).mono ?_
    rintro e w2 ⟨rfl, hk2⟩
    have hrow2 := hk2.row (by simp) F1.out.2.2.1
    have hrowh2 := hk2.row (by simp) F1.out.2.2.2
    have F2 := Lib.hid (And.intro (F1.out.1.on hk2) (And.intro (F1.out.2.1.trans (hk2.mono (by simp))) (And.intro hrow2 hrowh2)))
    have HHo := Lib.hid (HO.out.run k vs w2 (Mk.of_kp (F1.out.2.1.trans (hk2.mono (by simp))) (by simp)) hk5)
    obtain ⟨s0, s1, s2, s3, s4, s5, s6, s7, -⟩ := ms_of (F := fun _ => True) hrow2 trivial
    clear hk2 hrow2 hrowh2 r0 r1 r2 r3 r4 r5 r6 r7
    go_wp2_with fail
    refine HHo.out.mono ?_
    rintro e w3 ⟨rfl, hk3, hP3⟩
    have hne1 : w.heap.size ∉ Sh := fun e => by have := (HO.out.old _ e).1; omega
    have hne2 : w.heap.size + 1 ∉ Sh := fun e => by have := (HO.out.old _ e).1; omega
    have hrow3 := hk3.row hne1 F2.out.2.2.1
    have hrowh3 := hk3.row hne2 F2.out.2.2.2
    have hM3 := F2.out.1.told hk3 (fun b hb => (HO.out.old b hb).on (Mk.of_kp (p := p) (r := r) (q := q) F2.out.2.1 (by simp)))
    have F3 := Lib.hid (And.intro hM3 (And.intro ((Mh.of_mk (Sh := Sh) (p := p) (r := r) (q := q) (vs := vs) (Mk.of_kp F2.out.2.1 (by simp))).trans (Mh.of_kp hk3)) (And.intro hrow3 hrowh3)))
    have HP3 := Lib.hid hP3
    have HCl := Lib.hid (a_clear (o := o) (wk := wk) (hd := hd) hM3 (by have := HN.out; omega) k sz (by have := HN.out; omega) (by have := HN.out; have := HFit.out; omega) (.int .u8 2) (.int .u8 0) (.bool false) (.bool false) (.int .u8 o) (.int .u8 rf))
    obtain ⟨r0, r1, r2, r3, r4, r5, r6, r7, -⟩ := ms_of (F := fun _ => True) hrow3 trivial
    have g0 := (cell_of_row hrowh3 0).trans (show _ = some (.int .u8 2) from rfl)
    have g1 := (cell_of_row hrowh3 1).trans (show _ = some (.int .u8 0) from rfl)
    have g2 := (cell_of_row hrowh3 2).trans (show _ = some (.bool false) from rfl)
    have g3 := (cell_of_row hrowh3 3).trans (show _ = some (.bool false) from rfl)
    have g4 := (cell_of_row hrowh3 4).trans (show _ = some (.int .u8 o) from rfl)
    have g5 := (cell_of_row hrowh3 5).trans (show _ = some (.int .u8 rf) from rfl)
    have g6 := (cell_of_row hrowh3 6).trans (show _ = some (.int .u8 sz) from rfl)
    clear hk3 hP3 hne1 hne2 hrow3 hrowh3 hM3 s0 s1 s2 s3 s4 s5 s6 s7
    go_wp2_with fail
    refine HCl.out.mono ?_
    rintro e w4 ⟨rfl, h4, hk4⟩
    have hrow4 := hk4.row (by have := HNe.out.1; simp; omega) F3.out.2.2.1
    have hrowh4 := hk4.row (by have := HNe.out.2; simp; omega) F3.out.2.2.2
    have F4 := Lib.hid (And.intro h4 (And.intro hk4 (And.intro hrow4 hrowh4)))
    have HLc := Lib.hid (clearH_len (H := Hc) k sz)
    generalize clearH Hc k sz = Hd at F4 HLg2 HLc
    clear h4 hk4 hrow4 hrowh4 r0 r1 r2 r3 r4 r5 r6 r7 g0 g1 g2 g3 g4 g5 g6
    go_wp2_with fail
    obtain ⟨m, hm⟩ : ∃ m, run = m + 1 := ⟨run - 1, by omega⟩
    have HMm := Lib.hid hm
    have hm2 : m ≤ 2 := by omega
    clear hm
    go_loopg [11] m (fun gg v11 wr => ∃ i j : Nat, i + gg = m ∧ j = 1 + i ∧ v11 = .int .i64 j ∧ Hid (Mw T G n p r q vs (tailH T G b Hd i) R (t + 5 * n + 2 + sz + i) wr ∧ Kp [p, r] w3 wr ∧ wr.heap[w.heap.size]? = some (.cells (mkC T G n p q o wk hd) 135 (0, 0)) ∧ wr.heap[w.heap.size + 1]? = some (.cells #[.int .u8 2, .int .u8 0, .bool false, .bool false, .int .u8 o, .int .u8 rf, .int .u8 sz] 68 (0, 0))))
    case atStart => exact ⟨0, 1, by omega, by omega, rfl, Lib.hid ⟨F4.out.1, F4.out.2.1, F4.out.2.2.1, F4.out.2.2.2⟩⟩
    case round =>
      obtain ⟨i, j, hi, hj, rfl, HR⟩ := hrel
      have HJ := Lib.hid hj
      obtain ⟨r0, r1, r2, r3, r4, r5, r6, r7, -⟩ := ms_of (F := fun _ => True) HR.out.2.2.1 trivial
      by_cases hlt2 : i < m
      · obtain ⟨c, hc⟩ : ∃ c, c = b + j := ⟨_, rfl⟩
        have HCc := Lib.hid hc
        have hn64 := HN.out.1.2.2.2
        have e2 : (b : Int) + j = (c : Int) := by omega
        have hbn := HBn.out
        have e3 := IntWalk.i64_in (c : Int) (by have := HMm.out; omega)
        clear hbn
        have hjr : (j : Int) < run := by have := HMm.out; omega
        have HSet : Hid (Calls Tryz.prog 126 #[.iface 30 (.pointer (some ⟨p, 0, none⟩)), .agg #[.int .i64 T, .int .i64 G, .int .i64 n], .int .i64 c, .agg #[.int .u8 3, .int .u8 0, .int .u8 0, .int .u8 0]] wr fun e w2 => e = .returned (.tuple #[]) ∧ Mw T G n p r q vs (tailH T G b Hd (i + 1)) R (t + 5 * n + 2 + sz + (i + 1)) w2 ∧ Kp [p, r] wr w2) := by
          obtain ⟨t0, ht0, hh⟩ := HR.out.1.hw
          refine Lib.hid ((g_set_in hh (by have := HN.out; omega) c (by have := HMm.out; have := HBn.out; omega) 3 0 0 0 (by decide) (by decide) (by decide) (by decide) tail_may).mono ?_)
          rintro e w2 ⟨rfl, h3, h4⟩
          refine ⟨rfl, HR.out.1.turn h4 ⟨t0 + 1, by omega, ?_⟩ (by simp [tailH]), h4⟩
          have : (tailH T G b Hd i).set (3 + T + G + c) (Tb.wordE 3 0 0 0) = tailH T G b Hd (i + 1) := by
            rw [hc, hj]; rfl
          rw [← this]
          exact h3
        clear hj hc
        go_wp2_with fail
        refine HSet.out.mono ?_
        rintro e w5 ⟨rfl, h5, hk5⟩
        have F5 := Lib.hid (And.intro h5 (And.intro (HR.out.2.1.trans hk5) (And.intro (hk5.row (by have := HNe.out.1; simp; omega) HR.out.2.2.1) (hk5.row (by have := HNe.out.2; simp; omega) HR.out.2.2.2))))
        clear h5 hk5 r0 r1 r2 r3 r4 r5 r6 r7
        go_wp2_with fail
        go_roundg (m - (i + 1))
        case rel => exact ⟨i + 1, j + 1, by omega, by have := HJ.out; omega, by go_num, F5⟩
        case measure => omega
      · obtain rfl : i = m := by omega
        have hjr : ¬ ((j : Int) < run) := by have := HMm.out; omega
        have h5 := HR.out.1
        have HLt : Hid ((tailH T G b Hd i).length = H.length) := Lib.hid (by rw [tailH_len, HLc.out]; have := HN.out; omega)
        have hfin : fin = ((((tailH T G b Hd i).set k (Wd.wordI 2 0 o rf sz false false)).set (3 + T + G + b) (Tb.wordE 2 0 run o), R), some (k : Int)) := by
          have := HLg2.out
          rwa [show run - 1 = i from by have := HMm.out; omega] at this
        have HFi := Lib.hid hfin
        generalize tailH T G b Hd i = He at h5 HLt HFi
        have HWr := Lib.hid (a_write (o := o) (wk := wk) (hd := hd) h5 (by have := HN.out; omega) k (by rw [HLt.out]; have := HFit.out; omega) (k : Int) rfl 2 0 o rf sz false false (by decide) (by decide) (by omega) (by omega) (by omega) (loc_may o rf sz (by have := HN.out; omega) (by have := HN.out; omega) (by have := HN.out; omega)) _ rfl)
        have g0 := (cell_of_row HR.out.2.2.2 0).trans (show _ = some (.int .u8 2) from rfl)
        have g1 := (cell_of_row HR.out.2.2.2 1).trans (show _ = some (.int .u8 0) from rfl)
        have g2 := (cell_of_row HR.out.2.2.2 2).trans (show _ = some (.bool false) from rfl)
        have g3 := (cell_of_row HR.out.2.2.2 3).trans (show _ = some (.bool false) from rfl)
        have g4 := (cell_of_row HR.out.2.2.2 4).trans (show _ = some (.int .u8 o) from rfl)
        have g5 := (cell_of_row HR.out.2.2.2 5).trans (show _ = some (.int .u8 rf) from rfl)
        have g6 := (cell_of_row HR.out.2.2.2 6).trans (show _ = some (.int .u8 sz) from rfl)
        have HKR := Lib.hid HR.out.2
        generalize Wd.wordI 2 0 o rf sz false false = lx at HWr HFi
        clear h5 hfin HLg2 HR hj
        go_wp2_with fail
        refine HWr.out.mono ?_
        rintro e w6 ⟨rfl, h6, hk6⟩
        have hrow6 := hk6.row (by have := HNe.out.1; simp; omega) HKR.out.2.1
        have HSet : Hid (Calls Tryz.prog 126 #[.iface 30 (.pointer (some ⟨p, 0, none⟩)), .agg #[.int .i64 T, .int .i64 G, .int .i64 n], .int .i64 b, .agg #[.int .u8 2, .int .u8 0, .int .u8 run, .int .u8 o]] w6 fun e w2 => e = .returned (.tuple #[]) ∧ Mw T G n p r q vs ((He.set k lx).set (3 + T + G + b) (Tb.wordE 2 0 run o)) R (t + 5 * n + 110) w2 ∧ Kp [p, r] w6 w2) := by
          obtain ⟨t0, ht0, hh⟩ := h6.hw
          refine Lib.hid ((g_set_in hh (by have := HN.out; omega) b (by have := HBn.out; have := HMm.out; omega) 2 0 run o (by decide) (by decide) (by omega) (by omega) (head_may run o (by have := HN.out; omega) (by have := HN.out; omega))).mono ?_)
          rintro e w2 ⟨rfl, h3, h4⟩
          exact ⟨rfl, h6.turn h4 ⟨t0 + 1, by have := HN.out; omega, h3⟩ (by simp), h4⟩
        have F6 := Lib.hid (HKR.out.1.trans hk6)
        obtain ⟨s0, s1, s2, s3, s4, s5, s6, s7, -⟩ := ms_of (F := fun _ => True) hrow6 trivial
        have hr256 : ((run : Int) % 256) = run := by omega
        clear h6 hk6 hrow6 r0 r1 r2 r3 r4 r5 r6 r7 g0 g1 g2 g3 g4 g5 g6
        go_wp2_with fail
        refine HSet.out.mono ?_
        rintro e w7 ⟨rfl, h7, hk7⟩
        have F : Hid (((fin.2).getD 0 = k) ∧ erM fin.2 = 0 ∧ ∃ vs', Mw T G n p r q vs' fin.1.1 fin.1.2 (t + 5 * n + 110) w7 ∧ Mh Sh p r q vs vs' w w7 ∧ Tp Sh P fin.2 w w7) := Lib.hid (by
          rw [HFi.out]
          refine ⟨rfl, rfl, vs, h7, F3.out.2.1.trans (Mh.of_mk (Mk.of_kp (F6.out.trans hk7) (by simp))), Tp.of_some rfl ?_⟩
          exact HO.out.keep _ _ _ HP3.out (F6.out.trans hk7))
        clear h7 hk7 s0 s1 s2 s3 s4 s5 s6 s7
        go_wp2_with fail
        go_ret2
        exact ⟨by rw [F.out.1, F.out.2.1]; rfl, F.out.2.2⟩
end

end Go.Proofs.YtdbbkncjhnafdaaGreatDoor

namespace Go.Proofs.YtdbbkncjhnafdaaGreatDoor
set_option linter.unusedVariables false
set_option linter.unusedSimpArgs false
set_option maxRecDepth 100000
open Go.RowKit

/-- Words at many places become one. -/
def setAll (v : Int) (H : List Int) (ps : List Nat) : List Int := ps.foldl (fun H p => H.set p v) H
theorem setAll_len (v : Int) (ps : List Nat) : ∀ H : List Int, (setAll v H ps).length = H.length := by
  induction ps with
  | nil => intro H; rfl
  | cons p ps ih => intro H; show (setAll v (H.set p v) ps).length = _; rw [ih]; simp
theorem setAll_get (v : Int) (ps : List Nat) : ∀ (H : List Int) (j : Nat), (setAll v H ps).getD j 0 = if j ∈ ps ∧ j < H.length then v else H.getD j 0 := by
  induction ps with
  | nil => intro H j; simp [setAll]
  | cons p ps ih =>
    intro H j
    show (setAll v (H.set p v) ps).getD j 0 = _
    rw [ih, getD_set']
    simp only [List.length_set]
    by_cases h1 : j ∈ ps ∧ j < H.length
    · rw [if_pos h1, if_pos ⟨List.mem_cons_of_mem _ h1.1, h1.2⟩]
    · rw [if_neg h1]
      by_cases h2 : j = p ∧ p < H.length
      · rw [if_pos h2, if_pos ⟨by rw [h2.1]; exact List.mem_cons_self, by rw [h2.1]; exact h2.2⟩]
      · rw [if_neg h2, if_neg]
        rintro ⟨hm, hl⟩
        rcases List.mem_cons.1 hm with e | e
        · exact h2 ⟨e, e ▸ hl⟩
        · exact h1 ⟨e, hl⟩
theorem setAll_snoc (v : Int) (H : List Int) (ps : List Nat) (p : Nat) : setAll v H (ps ++ [p]) = (setAll v H ps).set p v := by simp [setAll, List.foldl_append]
theorem setAll_same {v : Int} {H : List Int} {ps qs : List Nat} (h : ∀ j, j ∈ ps ↔ j ∈ qs) : setAll v H ps = setAll v H qs := by
  refine ext_getD' (by rw [setAll_len, setAll_len]) fun k _ => ?_
  rw [setAll_get, setAll_get]
  simp only [h k]

section
variable {T G n o c b : Nat} {wk : Bool} {s : Hs} {H : List Int} {R : Nat → List Int}
theorem markS_all (i : Nat) : markS T G n o c b H i = setAll (lw o) H ((List.range i).map (pl T G n c b)) := by
  induction i with
  | zero => rfl
  | succ i ih => rw [markS, ih, List.range_succ, List.map_append, List.map_singleton, setAll_snoc]
theorem clearH_all (a i : Nat) : clearH H a i = setAll 0 H ((List.range i).map fun j => a + 1 + j) := by
  induction i with
  | zero => rfl
  | succ i ih => rw [clearH, ih, List.range_succ, List.map_append, List.map_singleton, setAll_snoc]
theorem tailH_all (i : Nat) : tailH T G b H i = setAll 3 H ((List.range i).map fun j => 3 + T + G + (b + (1 + j))) := by
  induction i with
  | zero => rfl
  | succ i ih => rw [tailH, ih, List.range_succ, List.map_append, List.map_singleton, setAll_snoc]
/-- The document marks from the last cell down. -/
def markD (T G n o c b m : Nat) (H : List Int) : Nat → List Int
  | 0 => H
  | i + 1 => (markD T G n o c b m H i).set (pl T G n c b (m - 1 - i)) (lw o)
theorem markD_all (m i : Nat) : markD T G n o c b m H i = setAll (lw o) H ((List.range i).map fun j => pl T G n c b (m - 1 - j)) := by
  induction i with
  | zero => rfl
  | succ i ih => rw [markD, ih, List.range_succ, List.map_append, List.map_singleton, setAll_snoc]
theorem markD_same (m : Nat) : markD T G n o c b m H m = markS T G n o c b H m := by
  rw [markD_all, markS_all]
  refine setAll_same fun j => ?_
  simp only [List.mem_map, List.mem_range]
  constructor
  · rintro ⟨i, hi, rfl⟩; exact ⟨m - 1 - i, by omega, rfl⟩
  · rintro ⟨i, hi, rfl⟩; exact ⟨m - 1 - i, by omega, by congr 1; omega⟩
theorem markD_len (m i : Nat) : (markD T G n o c b m H i).length = H.length := by rw [markD_all, setAll_len]
/-- The document's tails: the first one, too. -/
def tailD (T G b : Nat) (H : List Int) : Nat → List Int
  | 0 => H
  | i + 1 => (tailD T G b H i).set (3 + T + G + (b + i)) 3
theorem tailD_all (i : Nat) : tailD T G b H i = setAll 3 H ((List.range i).map fun j => 3 + T + G + (b + j)) := by
  induction i with
  | zero => rfl
  | succ i ih => rw [tailD, ih, List.range_succ, List.map_append, List.map_singleton, setAll_snoc]
theorem tailD_len (i : Nat) : (tailD T G b H i).length = H.length := by rw [tailD_all, setAll_len]

/-- What the document does where a class's row is empty. -/
def moreS (T G n o c : Nat) (wk : Bool) (s : Hs) : Hs :=
  if (foundS T G n o c s n).2 c = [] then
    match frst ((tidyH T G n o wk (foundS T G n o c s n).1).getD 0 0).toNat 1 with
    | none => (tidyH T G n o wk (foundS T G n o c s n).1, (foundS T G n o c s n).2)
    | some b => cutS T G n o c ((tidyH T G n o wk (foundS T G n o c s n).1).set 0 (Bm.setN ((tidyH T G n o wk (foundS T G n o c s n).1).getD 0 0).toNat b 1 false : Int), (foundS T G n o c s n).2) b
  else foundS T G n o c s n
def dcellS (T G n o : Nat) (wk : Bool) (c : Nat) (s : Hs) : Hs × Option Int := if s.2 c = [] then popS (moreS T G n o c wk s) c else popS s c

theorem popE_at (hc : c < 4) : Li.popE R c = if R c = [] then 5 else 0 := by
  unfold Li.popE Li.badC
  simp only [Int.toNat_natCast]
  rw [decide_eq_false (by omega), decide_eq_false (by omega)]
  rfl
theorem popS_none (hc : c < 4) (h : s.2 c = []) : popS s c = (s, none) := by
  unfold popS Li.popR
  rw [popE_at hc, if_pos h]
  rfl
theorem popS_some (hc : c < 4) (h : s.2 c ≠ []) : (popS s c).2.isSome = true := by
  unfold popS
  simp only
  rw [popE_at hc, if_neg h]
  rfl
theorem claimH_at {run : Nat} (hk : ∀ k, frst (H.getD 0 0).toNat run = some k → k + run ≤ n) : claimH n H run = match frst (H.getD 0 0).toNat run with | none => (H, none) | some k => (H.set 0 (Bm.setN (H.getD 0 0).toNat k run false : Int), some k) := by
  unfold claimH
  cases hf : frst (H.getD 0 0).toNat run with
  | none => rfl
  | some k => simp only; rw [if_pos (hk k hf)]
theorem cell_same (hc : c < 4) (hk : ∀ k, frst ((tidyH T G n o wk (foundS T G n o c s n).1).getD 0 0).toNat 1 = some k → k + 1 ≤ n) : cellS T G n o wk c s = dcellS T G n o wk c s := by
  unfold cellS dcellS
  by_cases h : s.2 c = []
  · rw [popS_none hc h]
    simp only [Option.isSome_none, if_false, Bool.false_eq_true]
    rw [if_pos h]
    unfold moreS foundP
    by_cases h2 : (foundS T G n o c s n).2 c = []
    · rw [popS_none hc h2]
      simp only [Option.isSome_none, if_false, Bool.false_eq_true]
      rw [if_pos h2]
      unfold carveS
      rw [claimH_at hk]
      cases frst ((tidyH T G n o wk (foundS T G n o c s n).1).getD 0 0).toNat 1 with
      | none => exact (popS_none (s := (tidyH T G n o wk (foundS T G n o c s n).1, (foundS T G n o c s n).2)) hc h2).symm
      | some k => rfl
    · rw [popS_some hc h2, if_neg h2]
      rfl
  · rw [popS_some hc h, if_neg h]
    rfl

/-- A run, as the document claims it. -/
def dblocksH (T G n o : Nat) (wk : Bool) (H : List Int) (run : Nat) : List Int × Option Nat :=
  match frst (H.getD 0 0).toNat run with
  | some k => (H.set 0 (Bm.setN (H.getD 0 0).toNat k run false : Int), some k)
  | none => if wk then (H, none) else match frst ((waitH T G n o H n).getD 0 0).toNat run with
    | some k => ((waitH T G n o H n).set 0 (Bm.setN ((waitH T G n o H n).getD 0 0).toNat k run false : Int), some k)
    | none => (waitH T G n o H n, none)
theorem blocks_same {run : Nat} (hk : ∀ k, frst (H.getD 0 0).toNat run = some k → k + run ≤ n) (hk2 : ∀ k, frst ((waitH T G n o H n).getD 0 0).toNat run = some k → k + run ≤ n) : blocksH T G n o wk H run = dblocksH T G n o wk H run := by
  unfold blocksH dblocksH
  rw [claimH_at hk]
  cases hf : frst (H.getD 0 0).toNat run with
  | some k => simp
  | none =>
    simp only [Option.isSome_none, Bool.false_or]
    cases wk with
    | true => rfl
    | false =>
      simp only [if_false, Bool.false_eq_true, tidyH]
      rw [claimH_at hk2]
      cases frst ((waitH T G n o H n).getD 0 0).toNat run <;> rfl
/-- The words of what goes into a run, as the document writes them. -/
theorem large_words {run rf sz : Nat} {y z : Int} (h1 : 1 ≤ run) (hb : b + run ≤ n) : ((tailD T G b ((clearH H (3 + T + G + n + 32 * b) sz).set (3 + T + G + n + 32 * b) y) run).set (3 + T + G + b) z) = (((tailH T G b (clearH H (3 + T + G + n + 32 * b) sz) (run - 1)).set (3 + T + G + n + 32 * b) y).set (3 + T + G + b) z) := by
  rw [tailD_all, tailH_all]
  refine ext_getD' (by simp [setAll_len]) fun k hk => ?_
  simp only [getD_set', setAll_get, List.length_set, setAll_len]
  by_cases h0 : k = 3 + T + G + b ∧ 3 + T + G + b < (clearH H (3 + T + G + n + 32 * b) sz).length
  · rw [if_pos h0, if_pos h0]
  · rw [if_neg h0, if_neg h0]
    by_cases hx : k = 3 + T + G + n + 32 * b ∧ 3 + T + G + n + 32 * b < (clearH H (3 + T + G + n + 32 * b) sz).length
    · rw [if_neg, if_pos hx, if_pos hx]
      rintro ⟨hm, _⟩
      obtain ⟨j, hj, hj2⟩ := List.mem_map.1 hm
      have := List.mem_range.1 hj
      omega
    · rw [if_neg hx, if_neg hx]
      congr 1
      apply propext
      constructor
      · rintro ⟨hm, h2⟩
        refine ⟨?_, h2⟩
        obtain ⟨j, hj, hj2⟩ := List.mem_map.1 hm
        have := List.mem_range.1 hj
        have hj0 : j ≠ 0 := fun e => h0 ⟨by omega, by omega⟩
        exact List.mem_map.2 ⟨j - 1, List.mem_range.2 (by omega), by omega⟩
      · rintro ⟨hm, h2⟩
        refine ⟨?_, h2⟩
        obtain ⟨j, hj, hj2⟩ := List.mem_map.1 hm
        have := List.mem_range.1 hj
        exact List.mem_map.2 ⟨1 + j, List.mem_range.2 (by omega), by omega⟩
end
end Go.Proofs.YtdbbkncjhnafdaaGreatDoor
