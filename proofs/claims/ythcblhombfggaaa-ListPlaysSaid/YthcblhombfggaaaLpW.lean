/- ListPlays, walked. Conditions: the acts lie where the slice leads. -/
import Derived.Test.YthcblhombfggaaaLpA
import Derived.Test.YthcblhombfggaaaLpO
import Derived.Deep.LoopGhost
import Derived.Deep.CutRange
import Derived.Deep.CutBlock
import Derived.Deep.DeepCutAuto
import Derived.Carry
import Derived.BigQuiet
import Derived.Deep.RegionHeld3
namespace Go.Proofs.Ythcblhombfggaaa
set_option linter.unusedVariables false
set_option linter.unusedSimpArgs false
open Go.RowKit

/-- What is known in a round: the two lists, and the act. -/
structure PX (w : World) (p b x : Nat) (d c a t : Int) (R Q : Nat → List Int) (wr : World) (vs us : Nat → Value) : Prop where
  pl : PL w p b R Q wr vs us
  hx : wr.heap[x]? = some (.cells #[.int .u8 d, .int .i64 c, .int .i64 a, .int .i64 t] 31 (0, 0))

section
variable {w wr w2 : World} {p b x : Nat} {d c a t : Int} {R R' Q Q' : Nat → List Int} {vs vs' us us' : Nat → Value}
theorem PX.lst (h : PX w p b x d c a t R Q wr vs us) (L : Ls w2 p vs' R') (k : Lk p vs vs' wr w2) : PX w p b x d c a t R' Q w2 vs' us :=
  ⟨h.pl.lst L k, k.row (ne_types h.hx h.pl.bag.ls.hp (by decide)) (not_own h.pl.bag.ls h.hx (by decide)) h.hx⟩
theorem PX.on (h : PX w p b x d c a t R Q wr vs us) (k : Kp [] wr w2) : PX w p b x d c a t R Q w2 vs us := ⟨h.pl.on k, k.row (by simp) h.hx⟩
theorem PX.x0 (h : PX w p b x d c a t R Q wr vs us) : wr.cell? ⟨x, 0, none⟩ = some (.int .u8 d) ∧ wr.cell? ⟨x, 1, none⟩ = some (.int .i64 c) ∧ wr.cell? ⟨x, 2, none⟩ = some (.int .i64 a) ∧ wr.cell? ⟨x, 3, none⟩ = some (.int .i64 t) := by
  rw [cell_of_row h.hx, cell_of_row h.hx, cell_of_row h.hx, cell_of_row h.hx]; exact ⟨rfl, rfl, rfl, rfl⟩
theorem PX.b0 (h : PX w p b x d c a t R Q wr vs us) : wr.cell? ⟨b, 0, none⟩ = some (us 0) ∧ wr.cell? ⟨b, 1, none⟩ = some (us 1) ∧ wr.cell? ⟨b, 2, none⟩ = some (us 2) ∧ wr.cell? ⟨b, 3, none⟩ = some (us 3) := by
  rw [cell_of_row h.pl.hb, cell_of_row h.pl.hb, cell_of_row h.pl.hb, cell_of_row h.pl.hb]; exact ⟨rfl, rfl, rfl, rfl⟩
def nil4 : Array Value := #[.slice none 0 0, .slice none 0 0, .slice none 0 0, .slice none 0 0]
def arr4 (us : Nat → Value) : Array Value := #[us 0, us 1, us 2, us 3]

/-- What the walk wants where the document's own answer is laid into a box of its own, and into its variable. -/
structure Sw (w6 : World) (b : Nat) (us us6 : Nat → Value) : Prop where
  nw : (w6.alloc (.cells #[.slice none 0 0, .slice none 0 0, .slice none 0 0, .slice none 0 0] 29)).heap[w6.heap.size]? = some (.cells #[.slice none 0 0, .slice none 0 0, .slice none 0 0, .slice none 0 0] 29 (0, 0))
  one : (#[us6 0, us6 1, us6 2, us6 3] : Array Value).all (·.oneCell') = true
  h8 : ((w6.alloc (.cells #[.slice none 0 0, .slice none 0 0, .slice none 0 0, .slice none 0 0] 29)).setRow w6.heap.size #[us6 0, us6 1, us6 2, us6 3]).heap[w6.heap.size]? = some (.cells #[us6 0, us6 1, us6 2, us6 3] 29 (0, 0))
  b8 : ((w6.alloc (.cells #[.slice none 0 0, .slice none 0 0, .slice none 0 0, .slice none 0 0] 29)).setRow w6.heap.size #[us6 0, us6 1, us6 2, us6 3]).heap[b]? = some (.cells #[us 0, us 1, us 2, us 3] 29 (0, 0))
theorem PX.swap {w6 : World} (h : PX w p b x d c a t R Q wr vs us) (k : Kp [] wr w6) (hr : Rows4 w6 us' Q') (hbl : Bl4 us us' wr.heap.size w6.heap.size) :
    Sw w6 b us us' ∧ PX w p b x d c a t R Q' (((w6.alloc (.cells #[.slice none 0 0, .slice none 0 0, .slice none 0 0, .slice none 0 0] 29)).setRow w6.heap.size #[us' 0, us' 1, us' 2, us' 3]).setRow b #[us' 0, us' 1, us' 2, us' 3]) vs us' := by
  have hb6 := k.row (by simp) h.pl.hb
  have hbl6 := lt_of_block hb6
  have hx6 := k.row (by simp) h.hx
  have hxl6 := lt_of_block hx6
  have k7 : Kp [] w6 (w6.alloc (.cells #[.slice none 0 0, .slice none 0 0, .slice none 0 0, .slice none 0 0] 29)) := (Kp.refl _ _).alloc _
  have k8 : Kp [w6.heap.size] w6 ((w6.alloc (.cells #[.slice none 0 0, .slice none 0 0, .slice none 0 0, .slice none 0 0] 29)).setRow w6.heap.size #[us' 0, us' 1, us' 2, us' 3]) := (k7.mono (by simp)).setRow (.inl (by simp)) _
  have n7 := heap_alloc_new w6 (.cells #[.slice none 0 0, .slice none 0 0, .slice none 0 0, .slice none 0 0] 29)
  have b8 := k8.row (by simp; omega) hb6
  have k9 : Kp [b, w6.heap.size] w6 (((w6.alloc (.cells #[.slice none 0 0, .slice none 0 0, .slice none 0 0, .slice none 0 0] 29)).setRow w6.heap.size #[us' 0, us' 1, us' 2, us' 3]).setRow b #[us' 0, us' 1, us' 2, us' 3]) := (k8.mono (by simp)).setRow (.inl (by simp)) _
  have hxb := ne_types h.hx h.pl.hb (by decide)
  exact ⟨⟨n7, ones hr, setRow_heap _ _ _ _ _ _ n7, b8⟩, h.pl.ref k hr hbl k9 (setRow_heap _ _ _ _ _ _ b8), k9.row (by simp; omega) hx6⟩
end

theorem Rw.cellAt {w : World} {g n cap : Nat} {xs : List Int} (h : Rw w (.slice (some ⟨g, 0, none⟩) n cap) xs) {i : Nat} (hi : i < xs.length) : w.cell? ⟨g, i, none⟩ = some (.int .i64 (xs.getD i 0)) := by
  rcases h with ⟨e, _⟩ | ⟨g', cap', cur, e, hg, _, _, _, h4⟩
  · cases e
  · cases e
    exact row_cell hg h4 hi
theorem Rd.cellAt {w : World} {ao : Option Addr} {n cap : Nat} {xs : List Int} (h : Rd w (.slice ao n cap) xs) {i : Nat} (hi : i < xs.length) : ∃ g o, ao = some ⟨g, o, none⟩ ∧ w.cell? ⟨g, o + i, none⟩ = some (.int .i64 (xs.getD i 0)) := by
  obtain ⟨ao', cap', e, _, _, hx⟩ := h.form
  cases e
  obtain ⟨g, o, e2, hc⟩ := hx (fun e => by subst e; simp at hi)
  exact ⟨g, o, e2, hc i hi⟩
/-- What holds in each world that the look-ups pass through. -/
def Look (wc : World) (b x : Nat) (a : Int) (us : Nat → Value) (w' : World) : Prop :=
  w'.cell? ⟨x, 2, none⟩ = some (.int .i64 a) ∧ w'.cell? ⟨b, 0, none⟩ = some (us 0) ∧ w'.cell? ⟨b, 1, none⟩ = some (us 1) ∧ w'.cell? ⟨b, 2, none⟩ = some (us 2) ∧ w'.cell? ⟨b, 3, none⟩ = some (us 3) ∧ Kp [] wc w'
theorem look_kp {wc w' : World} {b x : Nat} {a : Int} {us : Nat → Value} (h : Look wc b x a us w') : Kp [] wc w' := h.2.2.2.2.2
theorem look_on {w p : Nat} {wc w' w2 : World} {b x : Nat} {a : Int} {us : Nat → Value} (h : Look wc b x a us w') (k : Kp [] w' w2) : Look wc b x a us w2 := by
  obtain ⟨h1, h2, h3, h4, h5, h6⟩ := h
  have hc : ∀ g o v, w'.cell? ⟨g, o, none⟩ = some v → w2.cell? ⟨g, o, none⟩ = some v := fun g o v hv => (World.cell?_of_block (a := ⟨g, o, none⟩) (k.block g (block_lt_of_cell hv) (by simp))).trans hv
  exact ⟨hc _ _ _ h1, hc _ _ _ h2, hc _ _ _ h3, hc _ _ _ h4, hc _ _ _ h5, h6.trans k⟩
theorem look_drew {wc : World} {b x : Nat} {a : Int} {us : Nat → Value} (h : Look wc b x a us wc) : Look wc b x a us wc.drew := look_on (w := 0) (p := 0) h ((Kp.refl _ _).drew)
theorem PX.look {w wr : World} {p b x : Nat} {d c a t : Int} {R Q : Nat → List Int} {vs us : Nat → Value} (h : PX w p b x d c a t R Q wr vs us) : Look wr b x a us wr :=
  ⟨h.x0.2.2.1, h.b0.1, h.b0.2.1, h.b0.2.2.1, h.b0.2.2.2, Kp.refl _ _⟩

set_option maxRecDepth 100000 in
theorem plays_skip (w : World) (ao : Option Addr) (n cap : Nat) (h : 150 < n) :
    Calls Try.prog 3 #[.slice ao n cap] w fun e w' => e = .returned (.bool true) ∧ Below w.heap.size w w' := by
  go_enter Try.func3, Try.ntmps3
  go_wp2_with ((with_reducible refine (wakes_any _).mono ?_); rintro e w1 ⟨rfl, hb⟩; have H := Lib.hid hb; clear hb)
  go_ret
  exact ⟨rfl, H.out⟩

set_option maxRecDepth 100000 in
set_option maxHeartbeats 4000000 in
theorem plays_main (w : World) (ao : Option Addr) (cap : Nat) (L : List (Int × Int × Int × Int)) (hm : L.length ≤ 150) (hA : Acts w ao L) :
    Calls Try.prog 3 #[.slice ao L.length cap] w fun e w' => e = .returned (.bool true) ∧ Below w.heap.size w w' := by
  have hnew := bag_new w
  obtain ⟨m, hmm⟩ : ∃ m, m = L.length := ⟨_, rfl⟩
  have HM := Lib.hid hmm
  rw [← hmm] at hm ⊢
  clear hmm
  go_enter Try.func3, Try.ntmps3
  go_wp2_with fail
  refine hnew.mono ?_
  rintro e w1 ⟨rfl, B1⟩
  obtain ⟨p, hp⟩ : ∃ p, p = w.heap.size := ⟨_, rfl⟩
  rw [← hp] at B1 ⊢
  have hk2 := (Kp.refl [] w1).alloc (.cells #[.slice none 0 0, .slice none 0 0, .slice none 0 0, .slice none 0 0] 29)
  have hb2 := heap_alloc_new w1 (.cells #[.slice none 0 0, .slice none 0 0, .slice none 0 0, .slice none 0 0] 29)
  obtain ⟨b, hb⟩ : ∃ b, b = w1.heap.size := ⟨_, rfl⟩
  have R0 : PL w p b (fun _ => []) (fun _ => []) (w1.alloc (.cells #[.slice none 0 0, .slice none 0 0, .slice none 0 0, .slice none 0 0] 29)) (fun _ => .slice none 0 0) (fun _ => .slice none 0 0) :=
    ⟨B1.on hk2, by rw [hb]; exact hb2, fun d hd => Rd.nil _, fun d hd y hy => by simp [blk_nil] at hy, by rw [hb]; exact B1.bel.size⟩
  have HR := Lib.hid R0
  clear hk2 hb2 R0 B1 hnew hp
  go_wp2_with fail
  rw [← hb]
  clear hb
  generalize w1.alloc (.cells #[.slice none 0 0, .slice none 0 0, .slice none 0 0, .slice none 0 0] 29) = w2 at HR ⊢
  clear w1
  go_loopg [5] m (fun gg i wr => ∃ (k : Nat) (R : Nat → List Int) (vs us : Nat → Value), k + gg = m ∧ i = .int .i64 (k : Int) ∧ Hid (Len R k) ∧ Hid (PL w p b R R wr vs us))
  case atStart => exact ⟨0, _, _, _, by omega, rfl, Lib.hid (fun _ _ => Nat.le_refl _), HR⟩
  case round =>
    clear HR
    obtain ⟨k, R, vs, us, hkg, rfl, HL, H⟩ := hrel
    by_cases hkm : k < m
    · have hkl : k < L.length := HM.out ▸ hkm
      obtain ⟨ab, o, hao, hbw, q0, q1, q2, q3, f0, f1, f2, f3⟩ := hA k _ (List.getElem?_eq_getElem hkl)
      subst hao
      generalize L[k].1 = d at q0 f0
      generalize L[k].2.1 = c at q1 f1
      generalize L[k].2.2.1 = a at q2 f2
      generalize L[k].2.2.2 = t at q3 f3
      have g0 := (H.out.bag.bel.cell (p := ⟨ab, o + k * 4, none⟩) hbw).trans q0
      have g1 := (H.out.bag.bel.cell (p := ⟨ab, o + k * 4 + 1, none⟩) hbw).trans q1
      have g2 := (H.out.bag.bel.cell (p := ⟨ab, o + k * 4 + 2, none⟩) hbw).trans q2
      have g3 := (H.out.bag.bel.cell (p := ⟨ab, o + k * 4 + 3, none⟩) hbw).trans q3
      clear q0 q1 q2 q3
      have hka := (Kp.refl [] wr).alloc (.cells #[.int .u8 d, .int .i64 c, .int .i64 a, .int .i64 t] 31)
      have hxa := heap_alloc_new wr (.cells #[.int .u8 d, .int .i64 c, .int .i64 a, .int .i64 t] 31)
      obtain ⟨x, hx⟩ : ∃ x, x = wr.heap.size := ⟨_, rfl⟩
      rw [← hx] at hxa
      have HX : Hid (PX w p b x d c a t R R (wr.alloc (.cells #[.int .u8 d, .int .i64 c, .int .i64 a, .int .i64 t] 31)) vs us) := Lib.hid ⟨H.out.on hka, hxa⟩
      clear hka hxa H
      go_upto_region 9 with (fail)
      rw [← hx]
      clear hx g0 g1 g2 g3
      generalize wr.alloc (.cells #[.int .u8 d, .int .i64 c, .int .i64 a, .int .i64 t] 31) = w4 at HX ⊢
      clear wr
      obtain ⟨x0, x1, x2, x3⟩ := HX.out.x0
      go_upto_block 2 with (fail)
      go_cut [7, 8, 9, 10, 11, 12, 13, 14, 15, 16, 17] from 38 to 103 (fun _ _ _ _ _ _ _ _ _ _ _ w' => ∃ (R' : Nat → List Int) (vs' us' : Nat → Value), Len R' (k + 1) ∧ Hid (PX w p b x d c a t R' R' w' vs' us'))
      case first =>
        -- FIRST
        have l1 := HL.out.mono (show k ≤ 1000 by omega)
        by_cases hd : d = 0
        · have hdb : (d == 0) = true := by simp [hd]
          clear hd
          have HLN : Hid (Len (popR R c) (k + 1)) := Lib.hid ((HL.out.pop c).mono (by omega))
          have h1 := pop_is w4 p vs R c HX.out.pl.bag.ls l1
          go_wp2_with fail
          refine h1.mono ?_
          rintro e w5 ⟨rfl, vs5, L5, k5⟩
          have H5 := Lib.hid (HX.out.lst L5 k5)
          clear HX L5 k5 h1 x0 x1 x2 x3
          obtain ⟨y0, y1, y2, y3⟩ := H5.out.x0
          obtain ⟨z0, z1, z2, z3⟩ := H5.out.b0
          have h2 := rpop_is w5 us R c H5.out.pl.rd l1 H5.out.pl.lt
          go_wp2_with fail
          refine h2.mono ?_
          rintro e w6 ⟨us6, rfl, k6, r6, bl6⟩
          have F := Lib.hid (H5.out.swap k6 r6 bl6)
          clear k6 r6 bl6 h2 y0 y1 y2 y3 z0 z1 z2 z3 H5
          go_wp2_with (first
                      | (refine wpList_store_row rfl 29 _ _ rfl w6.heap.size _ rfl rfl 29 _ F.out.1.nw (by kernel_rfl) rfl F.out.1.one ?_)
                      | (refine wpList_load_row rfl 29 _ rfl w6.heap.size rfl 29 _ _ _ F.out.1.h8 Try.underlying29 rfl (by kernel_rfl) ?_)
                      | (refine wpList_store_row rfl 29 _ _ rfl b _ rfl rfl 29 _ F.out.1.b8 (by kernel_rfl) rfl F.out.1.one ?_))
          go_meet
          case rel => exact ⟨_, _, _, HLN.out, Lib.hid F.out.2⟩
        · have hdb : (d == 0) = false := by simp [hd]
          by_cases hd1 : d = 1
          · have hdb1 : (d == 1) = true := by simp [hd1]
            clear hd hd1
            have HLN : Hid (Len (dropR R a t) (k + 1)) := Lib.hid ((HL.out.drop a t).mono (by omega))
            have h1 := drop_is w4 p vs R a t HX.out.pl.bag.ls l1
            go_wp2_with fail
            refine h1.mono ?_
            rintro e w5 ⟨rfl, vs5, L5, k5⟩
            have H5 := Lib.hid (HX.out.lst L5 k5)
            clear HX L5 k5 h1 x0 x1 x2 x3
            obtain ⟨y0, y1, y2, y3⟩ := H5.out.x0
            obtain ⟨z0, z1, z2, z3⟩ := H5.out.b0
            have h2 := rdrop_is w5 us R a t H5.out.pl.rd l1 H5.out.pl.lt
            go_wp2_with fail
            refine h2.mono ?_
            rintro e w6 ⟨us6, rfl, k6, r6, bl6⟩
            have F := Lib.hid (H5.out.swap k6 r6 bl6)
            clear k6 r6 bl6 h2 y0 y1 y2 y3 z0 z1 z2 z3 H5
            go_wp2_with (first
                        | (refine wpList_store_row rfl 29 _ _ rfl w6.heap.size _ rfl rfl 29 _ F.out.1.nw (by kernel_rfl) rfl F.out.1.one ?_)
                        | (refine wpList_load_row rfl 29 _ rfl w6.heap.size rfl 29 _ _ _ F.out.1.h8 Try.underlying29 rfl (by kernel_rfl) ?_)
                        | (refine wpList_store_row rfl 29 _ _ rfl b _ rfl rfl 29 _ F.out.1.b8 (by kernel_rfl) rfl F.out.1.one ?_))
            go_meet
            case rel => exact ⟨_, _, _, HLN.out, Lib.hid F.out.2⟩
          · have hdb1 : (d == 1) = false := by simp [hd1]
            clear hd hd1
            have HLN : Hid (Len (pushR R c a) (k + 1)) := Lib.hid (HL.out.push c a)
            have h1 := push_is w4 p vs R c a HX.out.pl.bag.ls l1
            go_wp2_with fail
            refine h1.mono ?_
            rintro e w5 ⟨rfl, vs5, L5, k5⟩
            have H5 := Lib.hid (HX.out.lst L5 k5)
            clear HX L5 k5 h1 x0 x1 x2 x3
            obtain ⟨y0, y1, y2, y3⟩ := H5.out.x0
            obtain ⟨z0, z1, z2, z3⟩ := H5.out.b0
            have h2 := rpush_is w5 us R c a H5.out.pl.rd l1 H5.out.pl.lt
            go_wp2_with fail
            refine h2.mono ?_
            rintro e w6 ⟨us6, rfl, k6, r6, bl6⟩
            have F := Lib.hid (H5.out.swap k6 r6 bl6)
            clear k6 r6 bl6 h2 y0 y1 y2 y3 z0 z1 z2 z3 H5
            go_wp2_with (first
                        | (refine wpList_store_row rfl 29 _ _ rfl w6.heap.size _ rfl rfl 29 _ F.out.1.nw (by kernel_rfl) rfl F.out.1.one ?_)
                        | (refine wpList_load_row rfl 29 _ rfl w6.heap.size rfl 29 _ _ _ F.out.1.h8 Try.underlying29 rfl (by kernel_rfl) ?_)
                        | (refine wpList_store_row rfl 29 _ _ rfl b _ rfl rfl 29 _ F.out.1.b8 (by kernel_rfl) rfl F.out.1.one ?_))
            go_meet
            case rel => exact ⟨_, _, _, HLN.out, Lib.hid F.out.2⟩
        -- ENDFIRST
      case rest =>
        clear HX HL x0 x1 x2 x3
        obtain ⟨R', vs', us', hl, HX⟩ := hcut
        have HLN := Lib.hid hl
        have l1 := hl.mono (show k + 1 ≤ 1000 by omega)
        obtain ⟨hv, hvv⟩ : ∃ hv, hv = hasB R' a := ⟨_, rfl⟩
        have HC1 : Hid (∀ w', Kp [] wc w' → Calls Try.prog 14 #[.pointer (some ⟨p, 0, none⟩), .int .i64 a] w' fun e w2 => e = .returned (.bool hv) ∧ Kp [] w' w2) :=
          Lib.hid (fun w' k' => by rw [hvv]; exact has_any w' p vs' R' a (HX.out.pl.bag.ls.keep0 k') l1)
        have HC2 : Hid (∀ w', Kp [] wc w' → Calls Try.prog 15 #[.agg #[us' 0, us' 1, us' 2, us' 3], .int .i64 a] w' fun e w2 => e = .returned (.bool hv) ∧ Kp [] w' w2) :=
          Lib.hid (fun w' k' => by rw [hvv]; exact rhas_is w' us' R' a (fun d hd => (HX.out.pl.rd d hd).keep0 k') l1)
        have HLK := Lib.hid HX.out.look
        clear hl hvv
        go_wp2_with fail
        go_region_held3 (fun w' => w'.cell? ⟨x, 2, none⟩ = some (.int .i64 a) ∧ w'.cell? ⟨b, 0, none⟩ = some (us' 0) ∧ w'.cell? ⟨b, 1, none⟩ = some (us' 1) ∧ w'.cell? ⟨b, 2, none⟩ = some (us' 2) ∧ w'.cell? ⟨b, 3, none⟩ = some (us' 3) ∧ Kp [] wc w')
          (first
            | exact look_drew HLK.out
            | exact look_on (w := 0) (p := 0) ‹Look wc b x a us' _› hk)
          (first
            | (go_at_call 14; refine (HC1.out _ (look_kp ‹Look wc b x a us' _›)).mono ?_; rintro e w' ⟨rfl, hk⟩)
            | (go_at_call 15; refine (HC2.out _ (look_kp ‹Look wc b x a us' _›)).mono ?_; rintro e w' ⟨rfl, hk⟩))
        have H6 : Hid (PL w p b R' R' w' vs' us') := Lib.hid (HX.out.on (look_kp ‹Look wc b x a us' w'›)).pl
        rename_i hHeld
        clear hHeld hk HX HC1 HC2 HLK
        go_wp2_with fail
        go_loopg [18] 4 (fun gg cv wi => ∃ c : Nat, c + gg = 4 ∧ cv = .int .i64 (c : Int) ∧ Hid (PL w p b R' R' wi vs' us'))
        case atStart => exact ⟨0, by omega, rfl, H6⟩
        case round =>
          clear H6
          obtain ⟨c, hcg, rfl, H7⟩ := hrel
          by_cases hc4 : c < 4
          · have hnc := l1 c hc4
            have hall := all_good wr p c vs' R' H7.out.bag.ls hc4 hnc
            obtain ⟨z, hz⟩ : ∃ z, z = wr.heap.size := ⟨_, rfl⟩
            rw [← hz] at hall
            clear hz
            obtain ⟨n, hnn⟩ : ∃ n, n = (R' c).length := ⟨_, rfl⟩
            have HN := Lib.hid hnn
            rw [← hnn] at hall hnc
            obtain ⟨G, hG⟩ : ∃ G, G + 1 = gk := ⟨gk - 1, by omega⟩
            go_wp2_with fail
            refine hall.mono ?_
            rintro e w5 ⟨rfl, hrow, hk5⟩
            have H8 := Lib.hid (H7.out.on hk5)
            have HZ := Lib.hid hrow
            clear H7 hall hrow hk5
            have hlen := len_good w5 p c vs' R' H8.out.bag.ls hc4 (by omega)
            rw [← hnn] at hlen
            obtain ⟨ao, capu, hu, _, _, _⟩ := (H8.out.rd c hc4).form
            rw [show (rev R' c).length = n from by rw [hnn]; simp [rev]] at hu
            have HU := Lib.hid hu
            have hbc : w5.cell? ⟨b, c, none⟩ = some (us' c) := (Rs.mk H8.out.hb H8.out.rd : Rs w5 b us' (rev R')).cell hc4
            rw [hu] at hbc
            clear hnn hu
            go_wp2_with ((with_reducible refine hlen.mono ?_); rintro e w6 ⟨rfl, rfl⟩)
            go_loopg [20] n (fun gg jv wi => ∃ j : Nat, j + gg = n ∧ jv = .int .i64 (j : Int) ∧ Hid (PL w p b R' R' wi vs' us') ∧ Hid (Rw wi (.slice (some ⟨z, 0, none⟩) n n) (R' c).reverse))
            case atStart => exact ⟨0, by omega, rfl, H8, HZ⟩
            case round =>
              clear H8 HZ hbc hlen
              obtain ⟨j, hjg, rfl, H9, HZ⟩ := hrel
              by_cases hjn : j < n
              · have hjl : j < (R' c).reverse.length := by rw [List.length_reverse, ← HN.out]; exact hjn
                have hr := H9.out.rd c hc4
                rw [HU.out] at hr
                obtain ⟨g, o, rfl, hcu⟩ := hr.cellAt hjl
                have hcz := HZ.out.cellAt hjl
                have hbc : wr.cell? ⟨b, c, none⟩ = some (us' c) := (Rs.mk H9.out.hb H9.out.rd : Rs wr b us' (rev R')).cell hc4
                rw [HU.out] at hbc
                change wr.cell? ⟨g, _, none⟩ = some (.int .i64 ((R' c).reverse.getD j 0)) at hcu
                generalize (R' c).reverse.getD j 0 = y at hcu hcz
                clear hr hjl
                go_wp2_with fail
                go_quiet (fail)
                have H10 := Lib.hid (H9.out.on (kp_drewN wr nq))
                have HZ2 := Lib.hid (HZ.out.keep0 (kp_drewN wr nq))
                clear hcu hcz hbc H9 HZ
                go_wp2_with fail
                go_roundg (n - (j + 1))
                case measure => omega
                case rel => exact ⟨j + 1, by omega, by go_num, H10, HZ2⟩
              · have hnn : ¬ ((j : Int) < (n : Int)) := by omega
                clear HZ hjg
                go_wp2_with fail
                go_roundg G
                case measure => omega
                case rel => exact ⟨c + 1, by omega, by go_num, H9⟩
          · have hc44 : ¬ ((c : Int) < 4) := by omega
            go_wp2_with fail
            go_roundg (m - (k + 1))
            case measure => omega
            case rel => exact ⟨k + 1, R', vs', us', by omega, by go_num, HLN, H7⟩
    · have hkm' : ¬ ((k : Int) < (m : Int)) := by omega
      have l1 := HL.out.mono (show k ≤ 1000 by omega)
      have h1 := all_bad wr p 4 (by omega)
      have h2 := len_bad wr p (-1) (by omega)
      have HB := Lib.hid H.out.bag.bel
      clear H hkg
      go_wp2_with (first
        | ((with_reducible refine h1.mono ?_); rintro e w6 ⟨rfl, rfl⟩)
        | ((with_reducible refine h2.mono ?_); rintro e w6 ⟨rfl, rfl⟩))
      refine (wakes_any _).mono ?_
      rintro e w7 ⟨rfl, hb7⟩
      have hb8 := Lib.hid (HB.out.trans (hb7.mono HB.out.size))
      clear hb7 HB
      go_wp2
      go_ret
      exact ⟨rfl, hb8.out⟩

end Go.Proofs.Ythcblhombfggaaa
