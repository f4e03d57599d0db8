/- Object, Own, Globals of a graph. Conditions: as each theorem states them. -/
import Derived.Test.YtmbhhadghiojeaaGreatGl1
import Derived.Test.YtmbhhadghiojeaaGreatGl2
namespace Go.Proofs.YtmbhhadghiojeaaGreat
set_option linter.unusedVariables false
set_option linter.unusedSimpArgs false
open Go.RowKit Go.Maps

/-- What Object's act makes: the copies, and the two boxes. -/
def ObMade (w : World) (b1 b2 n1 n2 : Nat) (R D : List Int) (e : Ending) (w' : World) : Prop :=
  e = .returned (.tuple #[]) ∧ ∃ a1 e1 a2 e2, (w.heap.size ≤ a1 ∧ Ro 3 .i64 w' a1 R) ∧ (w.heap.size ≤ a2 ∧ Ro 31 .u64 w' a2 D) ∧
    w'.heap[b1]? = some (.cells #[.slice (some ⟨a1, 0, none⟩) n1 e1] 37 (0, 0)) ∧ w'.heap[b2]? = some (.cells #[.slice (some ⟨a2, 0, none⟩) n2 e2] 73 (0, 0)) ∧ Kp [b1, b2] w w'

theorem obmade_end {w wx w5 w6 : World} {b b1 b2 n1 n2 a1 e1 a2 e2 : Nat} {R D : List Int} {u1 u2 v1 v2 : Value} (hx : Kp [] w wx) (z1 : wx.heap.size ≤ a1) (r1 : Ro 3 .i64 w5 a1 R) (z2 : wx.heap.size ≤ a2) (r2 : Ro 31 .u64 w5 a2 D) (k5 : Kp [] wx w5)
    (hb : b = w.heap.size) (hO : w5.heap[b]? = some (.cells #[v1, v2] 75 (0, 0))) (k6 : Kp [b] w5 w6) (hb1 : w6.heap[b1]? = some (.cells #[u1] 37 (0, 0))) (hb2 : w6.heap[b2]? = some (.cells #[u2] 73 (0, 0))) (hne : b1 ≠ b2) :
    ObMade w b1 b2 n1 n2 R D (.returned (.tuple #[])) ((w6.setCell ⟨b1, 0, none⟩ (.slice (some ⟨a1, 0, none⟩) n1 e1)).setCell ⟨b2, 0, none⟩ (.slice (some ⟨a2, 0, none⟩) n2 e2)).drew := by
  have hb1' := heap_setCell_same w6 b1 0 _ _ (.slice (some ⟨a1, 0, none⟩) n1 e1) hb1
  have hb2' := ((Kp.refl [b1] w6).setCell (p := ⟨b1, 0, none⟩) (.inl (by simp)) (.slice (some ⟨a1, 0, none⟩) n1 e1)).row (by simpa using hne.symm) hb2
  have k7 : Kp [b1, b2] w6 ((w6.setCell ⟨b1, 0, none⟩ (.slice (some ⟨a1, 0, none⟩) n1 e1)).setCell ⟨b2, 0, none⟩ (.slice (some ⟨a2, 0, none⟩) n2 e2)).drew := (((Kp.refl _ _).setCell (.inl (by simp)) _).setCell (.inl (by simp)) _).drew
  have kr : ∀ {T : TypeId} {k : IntKind} {a : Nat} {xs : List Int}, T ≠ 75 → T ≠ 37 → T ≠ 73 → Ro T k w5 a xs → Ro T k ((w6.setCell ⟨b1, 0, none⟩ (.slice (some ⟨a1, 0, none⟩) n1 e1)).setCell ⟨b2, 0, none⟩ (.slice (some ⟨a2, 0, none⟩) n2 e2)).drew a xs := fun t1 t2 t3 r => by
    have r6 := r.keep k6 (by simpa using r.ne hO t1)
    exact r6.keep k7 (by simpa using And.intro (r6.ne hb1 t2) (r6.ne hb2 t3))
  refine ⟨rfl, a1, e1, a2, e2, ⟨Nat.le_trans hx.size z1, kr (by decide) (by decide) (by decide) r1⟩, ⟨Nat.le_trans hx.size z2, kr (by decide) (by decide) (by decide) r2⟩, ?_, ?_, ?_⟩
  · exact (((Kp.refl [b2] _).setCell (p := ⟨b2, 0, none⟩) (.inl (by simp)) _).row (by simpa using hne) hb1')
  · show ((w6.setCell ⟨b1, 0, none⟩ (.slice (some ⟨a1, 0, none⟩) n1 e1)).setCell ⟨b2, 0, none⟩ (.slice (some ⟨a2, 0, none⟩) n2 e2)).heap[b2]? = _
    rw [heap_setCell_same _ _ _ _ _ _ hb2']; rfl
  · have h1 : Kp [b, b1, b2] w w5 := (hx.trans k5).mono (by simp)
    exact ((h1.trans (k6.mono (by simp))).trans (k7.mono (by simp))).mono fun x hx' hlt => by
      simp only [List.mem_cons, List.not_mem_nil, or_false] at hx' ⊢
      omega

set_option maxRecDepth 100000 in
set_option maxHeartbeats 4000000 in
theorem object1_ok (w : World) (bg bk b1 b2 p B n g1 n1 c1 g2 n2 c2 : Nat) (R D : List Int) (u1 u2 : Value) (hg : w.cell? ⟨bg, 0, none⟩ = some (.pointer (some ⟨p, 0, none⟩))) (hk : w.cell? ⟨bk, 0, none⟩ = some (.int .i64 n)) (hp : w.cell? ⟨p, 2, none⟩ = some (.map (some B)))
    (hlk : ∀ w1, Kp [] w w1 → (Instr.lookup 51 (.map (some B)) (.int .i64 n) true).run Tryz.prog w1 = .ok (.tuple #[.agg #[.slice (some ⟨g1, 0, none⟩) n1 c1, .slice (some ⟨g2, 0, none⟩) n2 c2], .bool true]) w1)
    (hcl : ∀ w1, Kp [] w w1 → Calls Tryz.prog 51 #[.agg #[.slice (some ⟨g1, 0, none⟩) n1 c1, .slice (some ⟨g2, 0, none⟩) n2 c2]] w1 (ObCop w1 R D n1 n2))
    (hb1 : w.heap[b1]? = some (.cells #[u1] 37 (0, 0))) (hb2 : w.heap[b2]? = some (.cells #[u2] 73 (0, 0))) :
    Calls Tryz.prog 90 #[.pointer (some ⟨bg, 0, none⟩), .pointer (some ⟨bk, 0, none⟩), .pointer (some ⟨b1, 0, none⟩), .pointer (some ⟨b2, 0, none⟩)] w (ObMade w b1 b2 n1 n2 R D) := by
  have hn := need_ok w 1
  have hlk0 := hlk w (Kp.refl _ _)
  have hlk1 := hlk w.drew (Kp.refl _ _).drew
  have ka : Kp [] w (w.alloc (.cells #[.slice none 0 0, .slice none 0 0] 75)).drew := ((Kp.refl _ _).alloc _).drew
  have hlk2 := hlk _ ka
  have hg2 := ka.cell (by simp) hg
  have hk2 := ka.cell (by simp) hk
  have hp2 := ka.cell (by simp) hp
  clear ka
  have HL := Lib.hid hlk
  have HC := Lib.hid hcl
  have HB := Lib.hid (And.intro hb1 hb2)
  clear hlk hcl hb1 hb2
  go_enter Tryz.func90, Tryz.ntmps90
  go_wp2_with ((with_reducible refine hn.mono ?_); rintro e w2 ⟨rfl, rfl⟩)
  go_region
  all_goals
    have hO := heap_alloc_new w (.cells #[.slice (some ⟨g1, 0, none⟩) n1 c1, .slice (some ⟨g2, 0, none⟩) n2 c2] 75)
    have hkx : Kp [] w (w.alloc (.cells #[.slice (some ⟨g1, 0, none⟩) n1 c1, .slice (some ⟨g2, 0, none⟩) n2 c2] 75)).drew := ((Kp.refl _ _).alloc _).drew
    change (w.alloc (.cells #[.slice (some ⟨g1, 0, none⟩) n1 c1, .slice (some ⟨g2, 0, none⟩) n2 c2] 75)).drew.heap[w.heap.size]? = _ at hO
    generalize (w.alloc (.cells #[.slice (some ⟨g1, 0, none⟩) n1 c1, .slice (some ⟨g2, 0, none⟩) n2 c2] 75)).drew = wx at hO hkx ⊢
    have hn5 := need_ok wx 5
    have q0 := cell_of_row hO 0
    have q1 := cell_of_row hO 1
    simp only [List.getElem?_toArray, List.getElem?_cons_zero, List.getElem?_cons_succ] at q0 q1
    have hcx := HC.out wx hkx
    have HX := Lib.hid (And.intro hO hkx)
    clear hO hkx hg hk hp hn hlk0 hlk1 hlk2 hg2 hk2 hp2 HL HC
    obtain ⟨b, hb⟩ : ∃ b, b = w.heap.size := ⟨_, rfl⟩
    rw [← hb] at q0 q1 ⊢
    have HBB := Lib.hid hb
    clear hb
    go_wp2_with ((with_reducible refine hn5.mono ?_); rintro e w2 ⟨rfl, rfl⟩)
    refine hcx.mono ?_
    rintro e w5 ⟨a1, e1, a2, e2, rfl, hr1, hr2, hk5⟩
    have H5 := Lib.hid (And.intro hr1 (And.intro hr2 hk5))
    have hO5 := hk5.row (by simp) HX.out.1
    rw [← HBB.out] at hO5
    have q0 := cell_of_row hO5 0
    have q1 := cell_of_row hO5 1
    have f0 := free_of_row hO5 0
    have f1 := free_of_row hO5 1
    simp only [List.getElem?_toArray, List.getElem?_cons_zero, List.getElem?_cons_succ] at q0 q1
    have HO5 := Lib.hid hO5
    clear hr1 hr2 hk5 hO5 hcx hn5
    go_wp2_with fail
    have k6 : Kp [b] w5 ((w5.setCell ⟨b, 0, none⟩ (.slice (some ⟨a1, 0, none⟩) n1 e1)).setCell ⟨b, 1, none⟩ (.slice (some ⟨a2, 0, none⟩) n2 e2)) := ((Kp.refl _ _).setCell (.inl (by simp)) _).setCell (.inl (by simp)) _
    have hO6 : ((w5.setCell ⟨b, 0, none⟩ (.slice (some ⟨a1, 0, none⟩) n1 e1)).setCell ⟨b, 1, none⟩ (.slice (some ⟨a2, 0, none⟩) n2 e2)).heap[b]? = some (.cells #[.slice (some ⟨a1, 0, none⟩) n1 e1, .slice (some ⟨a2, 0, none⟩) n2 e2] 75 (0, 0)) := by
      rw [heap_setCell_same _ _ _ _ _ _ (heap_setCell_same _ _ _ _ _ _ HO5.out)]; rfl
    generalize ((w5.setCell ⟨b, 0, none⟩ (.slice (some ⟨a1, 0, none⟩) n1 e1)).setCell ⟨b, 1, none⟩ (.slice (some ⟨a2, 0, none⟩) n2 e2)) = w6 at k6 hO6 ⊢
    clear q0 q1 f0 f1
    have hk05 := HX.out.2.trans H5.out.2.2
    have hb1 := hk05.row (by simp) HB.out.1
    have hb2 := hk05.row (by simp) HB.out.2
    have hn1 : b1 ≠ b := ne_types hb1 HO5.out (by decide)
    have hn2 : b2 ≠ b := ne_types hb2 HO5.out (by decide)
    have hn3 : b1 ≠ b2 := ne_types hb1 hb2 (by decide)
    replace hb1 := k6.row (by simpa using hn1) hb1
    replace hb2 := k6.row (by simpa using hn2) hb2
    have q0 := cell_of_row hO6 0
    have q1 := cell_of_row hO6 1
    have p1 := cell_of_row hb1 0
    have p2 := cell_of_row hb2 0
    have f1 := free_of_row hb1 0
    have f2 := free_of_row hb2 0
    simp only [List.getElem?_toArray, List.getElem?_cons_zero, List.getElem?_cons_succ] at q0 q1 p1 p2
    have HE := Lib.hid (And.intro k6 (And.intro hb1 (And.intro hb2 (And.intro hn3 (And.intro hn1 hn2)))))
    have hn4 := hn3.symm
    have hn5 := hn1.symm
    have hn6 := hn2.symm
    clear k6 hO6 hk05 hb1 hb2
    go_region
    all_goals
      obtain ⟨k6, hb1, hb2, n3, n1', n2'⟩ := HE.out
      obtain ⟨⟨z1, r1⟩, ⟨z2, r2⟩, k5⟩ := H5.out
      have HF := Lib.hid (obmade_end (n1 := n1) (n2 := n2) (e1 := e1) (e2 := e2) HX.out.2 z1 r1 z2 r2 k5 HBB.out HO5.out k6 hb1 hb2 n3)
      clear q0 q1 p1 p2 f1 f2 hn1 hn2 hn3 hn4 hn5 hn6 k6 hb1 hb2 n3 n1' n2' z1 r1 z2 r2 k5
      go_end0
      exact HF.out

set_option maxRecDepth 100000 in
theorem object1_no (w : World) (bg bk b1 b2 p B : Nat) (x : Int) (hg : w.cell? ⟨bg, 0, none⟩ = some (.pointer (some ⟨p, 0, none⟩))) (hk : w.cell? ⟨bk, 0, none⟩ = some (.int .i64 x)) (hp : w.cell? ⟨p, 2, none⟩ = some (.map (some B)))
    (hlk : ∀ w1, Kp [] w w1 → (Instr.lookup 51 (.map (some B)) (.int .i64 x) true).run Tryz.prog w1 = .ok (.tuple #[zobj, .bool false]) w1) :
    Calls Tryz.prog 90 #[.pointer (some ⟨bg, 0, none⟩), .pointer (some ⟨bk, 0, none⟩), .pointer (some ⟨b1, 0, none⟩), .pointer (some ⟨b2, 0, none⟩)] w (Threw w 5) := by
  have hn := need_ok w 1
  have hlk0 := hlk w (Kp.refl _ _)
  have hlk1 := hlk w.drew (Kp.refl _ _).drew
  have ka : Kp [] w (w.alloc (.cells #[.slice none 0 0, .slice none 0 0] 75)).drew := ((Kp.refl _ _).alloc _).drew
  have hlk2 := hlk _ ka
  have hg2 := ka.cell (by simp) hg
  have hk2 := ka.cell (by simp) hk
  have hp2 := ka.cell (by simp) hp
  have HA := Lib.hid ka
  clear ka hlk
  simp only [zobj] at hlk0 hlk1 hlk2
  go_enter Tryz.func90, Tryz.ntmps90
  go_wp2_with ((with_reducible refine hn.mono ?_); rintro e w2 ⟨rfl, rfl⟩)
  go_region
  all_goals
    have hn5 := need_no (w.alloc (.cells #[.slice none 0 0, .slice none 0 0] 75)).drew 5
    clear hlk0 hlk1 hlk2 hg2 hk2 hp2 hn hg hk hp
    go_wp2_with ((with_reducible refine hn5.mono ?_); rintro e w2 ⟨rfl, rfl⟩)
    exact ⟨rfl, rfl, HA.out⟩


/-- What Own's act makes: the copies, and the two boxes. -/
def OwMade (w : World) (b1 b2 : Nat) (A L : List Int) (e : Ending) (w' : World) : Prop :=
  e = .returned (.tuple #[]) ∧ ∃ a1 e1 a2 e2, Rd w' (.slice (some ⟨a1, 0, none⟩) A.length e1) A ∧ Rd w' (.slice (some ⟨a2, 0, none⟩) L.length e2) L ∧
    w'.heap[b1]? = some (.cells #[.slice (some ⟨a1, 0, none⟩) A.length e1] 37 (0, 0)) ∧ w'.heap[b2]? = some (.cells #[.slice (some ⟨a2, 0, none⟩) L.length e2] 37 (0, 0)) ∧ Kp [b1, b2] w w'

set_option maxRecDepth 100000 in
theorem own1_ok (w : World) (bg bk b1 b2 p q t : Nat) (A L : List Int) (u1 u2 : Value) (hg : w.cell? ⟨bg, 0, none⟩ = some (.pointer (some ⟨p, 0, none⟩))) (hk : w.cell? ⟨bk, 0, none⟩ = some (.int .i64 t)) (hth : ThIs w p t [] q) (hR : Rt w q A L)
    (hb1 : w.heap[b1]? = some (.cells #[u1] 37 (0, 0))) (hb2 : w.heap[b2]? = some (.cells #[u2] 37 (0, 0))) (hne : b1 ≠ b2) :
    Calls Tryz.prog 91 #[.pointer (some ⟨bg, 0, none⟩), .pointer (some ⟨bk, 0, none⟩), .pointer (some ⟨b1, 0, none⟩), .pointer (some ⟨b2, 0, none⟩)] w (OwMade w b1 b2 A L) := by
  have ht := hth (.slice none 0 0) w (Kp.refl _ _) (Rd.nil w)
  have hso := slotsOf_any w q _ A L hR rfl hR.la
  have HST : Hid (∀ w1, Kp [] w w1 → Calls Tryz.prog 87 #[.pointer (some ⟨q, 0, none⟩)] w1 fun e w' => e = .returned (.slice (some ⟨w1.heap.size, 0, none⟩) L.length L.length) ∧ Rd w' (.slice (some ⟨w1.heap.size, 0, none⟩) L.length L.length) L ∧ Kp [] w1 w') := Lib.hid fun w1 k =>
    (stack_any w1 q A L (hR.keep0 k)).mono fun e w' h => ⟨h.1, Rd.of_row h.2.1, h.2.2⟩
  have HB := Lib.hid (And.intro hb1 (And.intro hb2 hne))
  have HEN : Hid (∀ (a1 e1 a2 e2 : Nat) (w6 : World), Kp [] w w6 → Rd w6 (.slice (some ⟨a1, 0, none⟩) A.length e1) A → Rd w6 (.slice (some ⟨a2, 0, none⟩) L.length e2) L →
      OwMade w b1 b2 A L (.returned (.tuple #[])) ((w6.setCell ⟨b1, 0, none⟩ (.slice (some ⟨a1, 0, none⟩) A.length e1)).setCell ⟨b2, 0, none⟩ (.slice (some ⟨a2, 0, none⟩) L.length e2))) := Lib.hid fun a1 e1 a2 e2 w6 k6 r1 r2 => by
    have c1 := k6.row (by simp) hb1
    have c2 := k6.row (by simp) hb2
    have c1' := heap_setCell_same w6 b1 0 _ _ (.slice (some ⟨a1, 0, none⟩) A.length e1) c1
    have c2' := ((Kp.refl [b1] w6).setCell (p := ⟨b1, 0, none⟩) (.inl (by simp)) (.slice (some ⟨a1, 0, none⟩) A.length e1)).row (by simpa using hne.symm) c2
    have k7 : Kp [b1, b2] w6 ((w6.setCell ⟨b1, 0, none⟩ (.slice (some ⟨a1, 0, none⟩) A.length e1)).setCell ⟨b2, 0, none⟩ (.slice (some ⟨a2, 0, none⟩) L.length e2)) := ((Kp.refl _ _).setCell (.inl (by simp)) _).setCell (.inl (by simp)) _
    have kr : ∀ {v : Value} {xs : List Int}, Rd w6 v xs → Rd ((w6.setCell ⟨b1, 0, none⟩ (.slice (some ⟨a1, 0, none⟩) A.length e1)).setCell ⟨b2, 0, none⟩ (.slice (some ⟨a2, 0, none⟩) L.length e2)) v xs := fun r =>
      r.keep k7 fun g hg => by simpa using And.intro (r.nin c1 (by decide) g hg) (r.nin c2 (by decide) g hg)
    refine ⟨rfl, a1, e1, a2, e2, kr r1, kr r2, ?_, ?_, (k6.mono (by simp)).trans k7⟩
    · exact (((Kp.refl [b2] _).setCell (p := ⟨b2, 0, none⟩) (.inl (by simp)) _).row (by simpa using hne) c1')
    · rw [heap_setCell_same _ _ _ _ _ _ c2']; rfl
  generalize A.length = na at hso HEN
  generalize L.length = nl at HST HEN
  clear hth hR hb1 hb2 hne
  go_enter Tryz.func91, Tryz.ntmps91
  go_wp2_with ((with_reducible refine ht.mono ?_); rintro e w2 ⟨rfl, rfl⟩)
  refine hso.mono ?_
  rintro e w5 ⟨g5, c5, rfl, hrw, hk5⟩
  have hst := HST.out w5 hk5
  have H5 := Lib.hid (And.intro hrw.rd hk5)
  clear hrw hk5 hso HST
  go_wp2_with fail
  refine hst.mono ?_
  rintro e w6 ⟨rfl, hrd, hk6⟩
  have c1 := (H5.out.2.trans hk6).row (by simp) HB.out.1
  have c2 := (H5.out.2.trans hk6).row (by simp) HB.out.2.1
  have HE := Lib.hid (HEN.out g5 c5 w5.heap.size nl w6 (H5.out.2.trans hk6) (H5.out.1.keep0 hk6) hrd)
  have p1 := cell_of_row c1 0
  have p2 := cell_of_row c2 0
  have f1 := free_of_row c1 0
  have f2 := free_of_row c2 0
  have hne := HB.out.2.2
  have hne2 := hne.symm
  simp only [List.getElem?_toArray, List.getElem?_cons_zero, List.getElem?_cons_succ] at p1 p2
  clear hrd hk6 hst H5 c1 c2 HB HEN
  go_wp2_with fail
  go_end0
  exact HE.out

/-! ### on a graph that lies somewhere -/
section
variable {F : Nat → Prop} {w : World} {p : Nat} {s : Gs} {M : Nat}
/-- What Object answers. -/
def ObIs (w : World) (R D : List Int) (e : Ending) (w' : World) : Prop :=
  ∃ a1 e1 a2 e2, e = .returned (.tuple #[.slice (some ⟨a1, 0, none⟩) R.length e1, .slice (some ⟨a2, 0, none⟩) D.length e2, .int .i64 0]) ∧ Ro 3 .i64 w' a1 R ∧ Ro 31 .u64 w' a2 D ∧ Kp [] w w'
def OwIs (w : World) (A L : List Int) (e : Ending) (w' : World) : Prop :=
  ∃ a1 e1 a2 e2, e = .returned (.tuple #[.slice (some ⟨a1, 0, none⟩) A.length e1, .slice (some ⟨a2, 0, none⟩) L.length e2, .int .i64 0]) ∧ Rd w' (.slice (some ⟨a1, 0, none⟩) A.length e1) A ∧ Rd w' (.slice (some ⟨a2, 0, none⟩) L.length e2) L ∧ Kp [] w w'
end

end Go.Proofs.YtmbhhadghiojeaaGreat
