/- Clone of a graph, walked. Conditions: as each theorem states them. -/
import Derived.Test.YtmbhhadghiojeaaGreatGl6
namespace Go.Proofs.YtmbhhadghiojeaaGreat
set_option linter.unusedVariables false
set_option linter.unusedSimpArgs false
open Go.RowKit Go.Maps

/-- What holds of the graph that is copied, in each world behind. -/
def Sc (w : World) (p B m : Nat) (v1 : Value) (w' : World) : Prop :=
  w'.cell? ⟨p, 1, none⟩ = some v1 ∧ w'.cell? ⟨p, 2, none⟩ = some (.map (some B)) ∧ (Builtin.len_ #[51] 3 #[.map (some B)]).run Tryz.prog w' = .ok (.int .i64 m) w' ∧ Kp [] w w'

/-- What holds of the copy, and of the box of an object, in each world behind. -/
def Sm (w : World) (p b B : Nat) (s1 s2 : Value) (w' : World) : Prop := w'.cell? ⟨p, 2, none⟩ = some (.map (some B)) ∧ w'.cell? ⟨b, 0, none⟩ = some s1 ∧ w'.cell? ⟨b, 1, none⟩ = some s2 ∧ Kp [B] w w'

/-- The copy's own box, its globals, its map. -/
def C0 (w : World) (s : Gs) (p B g c : Nat) (w' : World) : Prop := Cl w s p B g c (.slice none 0 0) [] w' ∧ Mo w' B 0 (fun _ => zobj)

theorem C0.start {w w3 : World} {s : Gs} {g c : Nat} (k : Kp [] w w3) (hg : w.heap.size ≤ g) (hr : Ro 3 .i64 w3 g (s.R 0)) :
    C0 w s (w3.heap.size + 1) w3.heap.size g c ((w3.alloc (.map #[] 0)).alloc (.cells #[.slice none 0 0, .slice (some ⟨g, 0, none⟩) (s.R 0).length c, .map (some w3.heap.size)] 54)) := by
  have k1 : Kp [] w3 (w3.alloc (.map #[] 0)) := (Kp.refl _ _).alloc _
  have k2 : Kp [] (w3.alloc (.map #[] 0)) ((w3.alloc (.map #[] 0)).alloc (.cells #[.slice none 0 0, .slice (some ⟨g, 0, none⟩) (s.R 0).length c, .map (some w3.heap.size)] 54)) := (Kp.refl _ _).alloc _
  have h1 := heap_alloc_new (w3.alloc (.map #[] 0)) (.cells #[.slice none 0 0, .slice (some ⟨g, 0, none⟩) (s.R 0).length c, .map (some w3.heap.size)] 54)
  rw [World.size_alloc] at h1
  have hs := k.size
  exact ⟨⟨h1, World.ownsRow_nil _ _ _ _, fun i hi => by simp at hi, fun i j hi => by simp at hi, (hr.keep0 k1).keep0 k2, (k.trans k1).trans k2, by omega, hs, hg, fun i hi => by simp at hi⟩, (Mo.made w3 _).keep k2 (by simp)⟩

theorem Cl.step {w wr w5 w6 : World} {s : Gs} {p B g c q : Nat} {v v' : Value} {us : List Nat} {f : Nat → Value} (h : Cl w s p B g c v us wr) (hm : Mo wr B 0 f) (k5 : Kp [] wr w5) (hR : Rt w5 q (s.A us.length) (s.L us.length)) (hq : wr.heap.size ≤ q)
    (hown : w6.ownsRow w.heap.size 55 1 v' (us ++ [q]).length (ptrs (us ++ [q]))) (k6 : Kp (Go.Proofs.YtmbhhadghiojeaaGreat.blk v) (w5.alloc (.cells #[.pointer (some ⟨q, 0, none⟩)] 55)) w6) :
    w6.heap[p]? = some (.cells #[v, .slice (some ⟨g, 0, none⟩) (s.R 0).length c, .map (some B)] 54 (0, 0)) ∧ Cl w s p B g c v' (us ++ [q]) (w6.setCell ⟨p, 0, none⟩ v') ∧ Mo (w6.setCell ⟨p, 0, none⟩ v') B 0 f := by
  have ka : Kp [] w5 (w5.alloc (.cells #[.pointer (some ⟨q, 0, none⟩)] 55)) := (Kp.refl _ _).alloc _
  have h1 := h.on (k5.trans ka)
  obtain ⟨m1, m2⟩ := h1.more (hR.keep0 ka) (by have := h.kp.size; omega) (fun i hi e => by have := (h.hq i hi).lt; omega) hown k6
  have hm6 := (hm.keep (k5.trans ka) (by simp)).keep k6 (fun e => by
    obtain ⟨_, cur, hc⟩ := h1.blk _ e
    exact (hm.keep (k5.trans ka) (by simp)).ne hc rfl)
  exact ⟨m1, m2, hm6.keep ((Kp.refl [p] _).setCell (.inl (by simp)) _) (by simpa using hm6.ne m1)⟩

theorem ranges_kp {H : Type} {P : Program} {k : TypeId} {R : Value → Option (DataW H × List MemPlace)} {w w' : World} {b r n cnt : Nat} {D : DataW H} {left : Lit → Bool} {S : List Nat} (h : w.ranges P k R b r n D left cnt) (q : Kp S w w') (hb : b ∉ S) (hr : r ∉ S) : w'.ranges P k R b r n D left cnt := by
  obtain ⟨es, clock, since, seen, c0, h1, h2, h3, h4, h5, rest⟩ := h
  exact ⟨es, clock, since, seen, c0, q.row hb h1, h2, h3, h4, q.row hr h5, rest⟩
theorem ranges_no {H : Type} {P : Program} {k : TypeId} {R : Value → Option (DataW H × List MemPlace)} {w : World} {b r n cnt : Nat} {D : DataW H} {left : Lit → Bool} (h : w.ranges P k R b r n D left cnt) : NoCells w r := by
  obtain ⟨es, clock, since, seen, c0, h1, h2, h3, h4, h5, rest⟩ := h
  intro cs t fr e
  rw [h5] at e
  cases e
/-- All that is left is a number of an object. -/
def Lf (left : Lit → Bool) (m : Nat) : Prop := ∀ l, left l = true → ∃ n : Nat, 1 ≤ n ∧ n ≤ m ∧ l = .int .i64 n
theorem Lf.step {left : Lit → Bool} {m : Nat} (h : Lf left m) (l0 : Lit) : Lf (fun z => left z && !z.sameKey l0) m := fun l hl => by
  simp only [Bool.and_eq_true] at hl
  exact h l hl.1
theorem invk : ∀ key kl, keyOf Tryz.prog 3 key = some kl → ∃ x, key = Value.int .i64 x := fun key kl h => by
  obtain ⟨x, rfl, _⟩ := Maps.keyOf_int_inv Tryz.underlying3 h
  exact ⟨x, rfl⟩
theorem invv : ∀ (v : Value) (y : DataW Value × List MemPlace), heldR v = some y → ∃ c : Value, v = (fun c => c) c := fun v y _ => ⟨v, rfl⟩

theorem run_makeMap_hint (x : Int) (w : World) : (Instr.makeMap 51 (some (.int .i64 x))).run Tryz.prog w = .ok (.map (some w.heap.size)) (w.alloc (.map #[] 0)) := by
  simp [Instr.makeMap, run_underlying Tryz.underlying51, asInt, asIntOf, newObj]
  rfl

set_option maxRecDepth 100000 in
set_option maxHeartbeats 8000000 in
theorem clone_any (w : World) (p M : Nat) (s : Gs) (y : Ly) (hy : Gy w p s y) (hw : Wf s M) (hM : M ≤ 10000) (hsl : ∀ i, i < s.nt → 1 ≤ (s.A i).length) :
    Calls Tryz.prog 13 #[.pointer (some ⟨p, 0, none⟩)] w fun e w' => ∃ p', e = .returned (.pointer (some ⟨p', 0, none⟩)) ∧ Gx (fun b => w.heap.size ≤ b ∧ b < w'.heap.size) w' p' s ∧ Kp [] w w' := by
  have HY := Lib.hid hy
  have HW := Lib.hid hw
  have h8 := hw.g8
  obtain ⟨n0, hn0⟩ : ∃ n, n = (s.R 0).length := ⟨_, rfl⟩
  have HN0 := Lib.hid hn0
  have HS : Hid (∀ w', Kp [] w w' → Sc w p y.B s.m (.slice (some ⟨y.ig 0, 0, none⟩) n0 (y.ic 0)) w') := Lib.hid fun w' k => ⟨by rw [hn0]; exact (hy.keep0 k).c1, (hy.keep0 k).c2, (hy.keep0 k).hm.len _, k⟩
  have HC : Hid (∀ w', Kp [] w w' → Calls Tryz.prog 45 #[.slice (some ⟨y.ig 0, 0, none⟩) n0 (y.ic 0)] w' (Cop 3 .i64 w' (s.R 0) n0)) := Lib.hid fun w' k => by
    rw [hn0]
    exact (clone_int w' (y.ig 0) (y.ic 0) (s.R 0) ((hy.keep0 k).hi 0 (Nat.zero_le _)) (by omega)).mono fun e w2 h => h.cop rfl
  have hmm := run_makeMap_hint
  have hS0 := HS.out w (Kp.refl _ _)
  generalize hB0 : y.B = B0 at HS hS0
  generalize y.ig 0 = gi at HS HC hS0
  generalize y.ic 0 = gc at HS HC hS0
  generalize hsm : s.m = sm at HS hS0
  clear hy hw hn0 hB0 hsm h8
  go_enter Tryz.func13, Tryz.ntmps13
  go_upto_region 3 with (fail)
  go_cut [3] from 10 to 22 (fun v3 w' => ∃ (pc B g c : Nat), v3 = .pointer (some ⟨pc, 0, none⟩) ∧ Hid (C0 w s pc B g c w'))
  case first =>
    go_region_held3 (fun w' => w'.cell? ⟨p, 1, none⟩ = some (.slice (some ⟨gi, 0, none⟩) n0 gc) ∧ w'.cell? ⟨p, 2, none⟩ = some (.map (some B0)) ∧ (Builtin.len_ #[51] 3 #[.map (some B0)]).run Tryz.prog w' = .ok (.int .i64 sm) w' ∧ Kp [] w w')
      (first
        | exact HS.out _ (Kp.refl _ _).drew
        | exact HS.out _ ((‹Sc w p B0 sm (.slice (some ⟨gi, 0, none⟩) n0 gc) _›).2.2.2.trans hk)
        | exact HS.out _ ((‹Sc w p B0 sm (.slice (some ⟨gi, 0, none⟩) n0 gc) _›).2.2.2.alloc _))
      (first
        | (go_at_call 45
           refine (HC.out _ (‹Sc w p B0 sm (.slice (some ⟨gi, 0, none⟩) n0 gc) _›).2.2.2).mono ?_
           rintro e w3 ⟨g3, c3, rfl, hr3, hk⟩
           have H3 := Lib.hid hr3
           clear hr3))
    go_wp2_with fail
    go_meet
    have h3 := H3.out
    have e0 := HN0.out
    subst e0
    exact ⟨_, _, _, _, rfl, Lib.hid (C0.start (by first | exact hk | exact hk.drew_l) h3.1 h3.2.1)⟩
  case rest =>
    obtain ⟨pc, B, g, c, rfl, HCL⟩ := hcut
    have c0 := (HY.out.keep0 HCL.out.1.kp).c0
    obtain ⟨nt, hnt⟩ : ∃ nt, nt = s.nt := ⟨_, rfl⟩
    have HNT := Lib.hid hnt
    have hnt64 : nt ≤ 64 := by rw [hnt]; exact HW.out.n64
    rw [← hnt] at c0
    have HQ : Hid (∀ k, k < nt → ∀ w', Kp [] w w' → w'.cell? ⟨y.tb, k, none⟩ = some (.pointer (some ⟨y.qs k, 0, none⟩)) ∧ Calls Tryz.prog 50 #[.pointer (some ⟨y.qs k, 0, none⟩)] w' (CrIs w' (s.A k) (s.L k))) := Lib.hid fun k hk w' kk => by
      have h1 := HY.out.keep0 kk
      have hk' : k < s.nt := hnt ▸ hk
      have h2 := h1.hq k hk'
      exact ⟨h1.ct hk', cloneRoots_any w' _ _ _ _ h2 rfl (hsl k hk') h2.la (fun x hx => (HW.out.vA k hk' x hx).1) (fun x hx => (HW.out.vL k hk' x hx).1)⟩
    clear hnt hsl HS HC HN0 hmm hS0
    generalize hyt : y.tb = tb at c0 HQ
    generalize y.tc = tc at c0
    clear hyt
    go_wp2_with fail
    go_loopg [28] nt (fun gg v wr => ∃ (k : Nat) (us : List Nat) (ao : Option Addr) (cp : Nat), k + gg = nt ∧ v = .int .i64 (k : Int) ∧ Hid (us.length = k ∧ Cl w s pc B g c (.slice ao k cp) us wr ∧ Mo wr B 0 (fun _ => zobj)))
    case atStart => exact ⟨0, [], none, 0, by omega, rfl, Lib.hid ⟨rfl, HCL.out.1, HCL.out.2⟩⟩
    case round =>
      clear HCL c0
      obtain ⟨k, us, ao, cp, hkg, rfl, H⟩ := hrel
      by_cases hkn : k < nt
      · obtain ⟨cq, hcr⟩ := HQ.out k hkn wr H.out.2.1.kp
        have p0 : wr.cell? ⟨pc, 0, none⟩ = some (.slice ao k cp) := by rw [cell_of_row H.out.2.1.hp]; rfl
        have f0 := free_of_row H.out.2.1.hp 0
        have HCR : Hid (∀ w', Kp [] w w' → Calls Tryz.prog 50 #[.pointer (some ⟨y.qs k, 0, none⟩)] w' (CrIs w' (s.A k) (s.L k))) := Lib.hid fun w' kk => (HQ.out k hkn w' kk).2
        have hul := H.out.1
        have HUL := Lib.hid hul
        have hk64 : k < 64 := by omega
        generalize y.qs k = q at cq HCR
        clear hcr hul
        go_wp2_with fail
        go_region_law (first
          | (refine step_append_eq rfl (.tmp 36) (.tmp 39) 52 rfl _ _ _ rfl rfl hrun ?_)
          | (go_simp
             go_at_call 50
             refine (HCR.out _ H.out.2.1.kp.drew).mono ?_
             rintro e w5 ⟨q5, rfl, hge, hR, k5⟩
             have k5' := k5.drew_l
             have ka : Kp [] w5 (w5.alloc (.cells #[.pointer (some ⟨q5, 0, none⟩)] 55)) := (Kp.refl _ _).alloc _
             obtain ⟨g6, cap6, w6, hrun, hown6, hk6⟩ := run_append_ptr (.slice ao k cp) us q5 ⟨w5.heap.size, 0, none⟩ ((H.out.2.1.on k5').on ka).own (by have := HUL.out; omega) ((H.out.2.1.on k5').on ka).kp.size (by
               rw [Addr.add_lit, cell_of_row (heap_alloc_new w5 _)]; rfl) 52
             have hst := H.out.2.1.step H.out.2.2 k5' (by rw [HUL.out]; exact hR) hge hown6 hk6
             rw [HUL.out] at hrun hst
             have c5 : w5.cell? ⟨pc, 0, none⟩ = some (.slice ao k cp) := by rw [cell_of_row (H.out.2.1.on k5').hp]; rfl
             have c6 := ka.cell (by simp) c5
             have e6 : w6.cell? ⟨pc, 0, none⟩ = some (.slice ao k cp) := by rw [cell_of_row hst.1]; rfl
             have g06 := free_of_row hst.1 0
             have HST := Lib.hid hst.2
             have HLE := Lib.hid (show (us ++ [q5]).length = k + 1 from by rw [List.length_append, HUL.out]; rfl)
             clear hge hR k5 k5' ka hown6 hk6 hst))
        all_goals go_wp2_with fail
        all_goals
          have HN := Lib.hid (And.intro HLE.out HST.out)
          clear H HLE HST
          go_roundg (nt - (k + 1))
          case measure => omega
          case rel => exact ⟨k + 1, _, _, _, by omega, by go_num, HN⟩
      · obtain rfl : k = nt := by omega
        have hM' := HW.out.m
        obtain ⟨D, hown, hsz, hD3, hD4, hD5⟩ := (HY.out.keep0 H.out.2.1.kp).hm
        have c2 := (HY.out.keep0 H.out.2.1.kp).c2
        have HD := Lib.hid (And.intro hD3 (And.intro hD4 hD5))
        obtain ⟨r, hr⟩ : ∃ r, r = wr.heap.size := ⟨_, rfl⟩
        have HRS := Lib.hid hr
        have HBN : Hid (y.B ≠ B ∧ r ≠ B ∧ w.heap.size ≤ r ∧ w.heap.size ≤ B) := Lib.hid (by
          have h1 := HY.out.lt (b := y.B) (.inr (.inr (.inl rfl)))
          have h2 := H.out.2.1.lo.2.1
          obtain ⟨_, _, hm⟩ := H.out.2.2.heap
          have h3 := lt_of_block hm
          have h4 := H.out.2.1.kp.size
          omega)
        obtain ⟨sm, hsm⟩ : ∃ sm, sm = s.m := ⟨_, rfl⟩
        have HSM := Lib.hid hsm
        rw [← hsm] at hown hsz hM'
        generalize hyB : y.B = B0 at c2 hown HBN
        have HYB := Lib.hid hyB
        clear hD3 hD4 hD5 hsm hyB HQ
        go_wp2_with (first
          | (at_range; refine wpList_range_own _ rfl _ 51 rfl 3 75 kint Tryz.underlying51 _ B0 sm D rfl hown ?_; intro w0 hrg0 hg0 hs0; rw [← hr] at hrg0 ⊢; clear hr))
        have HK0 : Hid (Kp [] wr w0) := Lib.hid ((Kp.refl _ _).grown hg0 (by simp))
        have HR0 := Lib.hid hrg0
        have H0 : Hid (Cm w s pc B g c (.slice ao k cp) us 0 (Maps.has D) w0 ∧ Lf (Maps.has D) sm ∧ Maps.size D + 0 ≤ sm) := Lib.hid ⟨⟨H.out.2.1.on HK0.out, fun _ => 0, fun _ => 0, fun _ => 0, fun _ => 0, Mq.start (H.out.2.2.keep HK0.out (by simp)) (fun n a b => HD.out.2.1 n a b), ⟨fun n a b e => (by rw [HD.out.2.1 n a b] at e; cases e), fun n a b e => (by rw [HD.out.2.1 n a b] at e; cases e), fun n j a b e => (by rw [HD.out.2.1 n a b] at e; cases e), fun n j a b e => (by rw [HD.out.2.1 n a b] at e; cases e), fun n a b e => (by rw [HD.out.2.1 n a b] at e; cases e)⟩⟩,
          by rw [HSM.out]; exact HD.out.1, by omega⟩
        have HUL := Lib.hid H.out.1
        clear hrg0 hg0 hs0 hown hsz c2 H
        go_frame
        go_loopw [6] (fun _ wr => ∃ (left : Lit → Bool) (cnt cc : Nat), Hid (wr.ranges Tryz.prog 3 heldR B0 r sm D left cnt) ∧ Hid (Cm w s pc B g c (.slice ao k cp) us cc left wr ∧ Lf left sm ∧ cnt + cc ≤ sm))
          (fun _ wr => wr.rangeLeft B0 r)
        case atStart => exact ⟨_, _, 0, HR0, H0⟩
        case round =>
          clear HR0 HK0 H0
          obtain ⟨left, cnt, cc, HR, H⟩ := hrel
          have hrg := HR.out
          go_wp2_with (first
            | (at_next; refine wpList_next_ranges _ rfl _ rfl 3 kint heldR (Value.int .i64) (fun c : Value => c) invk invv B0 r sm D left cnt rfl hrg ?_ ?_))
          · -- nothing is left
            intro hc0 hl0
            have HE : Hid (Gx (fun b => w.heap.size ≤ b ∧ b < wr.heap.size) wr pc s ∧ Kp [] w wr) := Lib.hid ⟨H.out.1.gy (by rw [HUL.out]; exact HNT.out) HW.out.n1 (by have := H.out.2.2; have := HSM.out; omega) hl0, H.out.1.1.kp⟩
            clear H HR hrg hl0
            go_wp2_with fail
            go_ret
            exact ⟨_, rfl, HE.out⟩
          · -- an object has come
            intro x cv kl yv yps w1 cnt1 hkey hlk hv hat hrg1 hlt hg1 hs1 hen
            obtain ⟨x', ex, rfl, hwx⟩ := Maps.keyOf_int_inv Tryz.underlying3 hkey
            cases ex
            obtain ⟨n, n1, nm, en⟩ := H.out.2.1 _ hlk
            injection en with _ en
            subst en
            have nm' : n ≤ s.m := by have := HSM.out; omega
            have hcv : cv = .agg #[.slice (some ⟨y.ig n, 0, none⟩) (s.R n).length (y.ic n), .slice (some ⟨y.dg n, 0, none⟩) (s.D n).length (y.dc n)] := by
              have h1 := hat (.lit (.bool false))
              rw [HD.out.2.2 n n1 nm'] at h1
              rw [← h1] at hv
              exact heldR_inv hv
            subst hcv
            have kp1 : Kp [r] wr w1 := (Kp.refl _ _).grown hg1 (fun j hj => by cases hj; simp)
            have hcm1 := H.out.1.keep kp1 (by simpa using ranges_no hrg) (by simpa using HBN.out.2.2.1) (by simpa using HBN.out.2.1.symm)
            obtain ⟨l1, hl1⟩ : ∃ q, q = (s.R n).length := ⟨_, rfl⟩
            obtain ⟨l2, hl2⟩ : ∃ q, q = (s.D n).length := ⟨_, rfl⟩
            rw [← hl1, ← hl2] at hen
            have HLL := Lib.hid (And.intro hl1 hl2)
            have ka : Kp [] w1 (w1.alloc (.cells #[.slice (some ⟨y.ig n, 0, none⟩) l1 (y.ic n), .slice (some ⟨y.dg n, 0, none⟩) l2 (y.dc n)] 75)) := (Kp.refl _ _).alloc _
            have hb7 := heap_alloc_new w1 (.cells #[.slice (some ⟨y.ig n, 0, none⟩) l1 (y.ic n), .slice (some ⟨y.dg n, 0, none⟩) l2 (y.dc n)] 75)
            have HW2 := Lib.hid (And.intro (hcm1.on ka) (And.intro hb7 (ranges_kp hrg1 ka (by simp) (by simp))))
            have HLT := Lib.hid (And.intro hrg.left_eq hlt)
            have HNM := Lib.hid (And.intro n1 nm')
            clear n1 nm nm' kp1 hcm1 ka hb7 hkey hlk hv hat hlt hg1 hs1 hwx hrg hrg1 hl1 hl2 HR
            go_wp2_with fail
            generalize hw2 : w1.alloc (.cells #[.slice (some ⟨y.ig n, 0, none⟩) l1 (y.ic n), .slice (some ⟨y.dg n, 0, none⟩) l2 (y.dc n)] 75) = w2 at HW2 ⊢
            generalize w1.heap.size = b7 at HW2 ⊢
            have HBI := Lib.hid (And.intro HW2.out.1.isMap HW2.out.1.1.lo.2.1)
            have HSM2 : Hid (∀ w', Kp [B] w2 w' → Sm w2 pc b7 B (.slice (some ⟨y.ig n, 0, none⟩) l1 (y.ic n)) (.slice (some ⟨y.dg n, 0, none⟩) l2 (y.dc n)) w') := Lib.hid fun w' kk => by
              have h1 := kk.row (by simpa using HBI.out.1.ne HW2.out.1.1.hp) HW2.out.1.1.hp
              have h2 := kk.row (by simpa using HBI.out.1.ne HW2.out.2.1) HW2.out.2.1
              exact ⟨by rw [cell_of_row h1]; rfl, by rw [cell_of_row h2]; rfl, by rw [cell_of_row h2]; rfl, kk⟩
            have HOC : Hid (∀ w', Kp [B] w2 w' → Calls Tryz.prog 51 #[.agg #[.slice (some ⟨y.ig n, 0, none⟩) l1 (y.ic n), .slice (some ⟨y.dg n, 0, none⟩) l2 (y.dc n)]] w' (ObCop w' (s.R n) (s.D n) l1 l2)) := Lib.hid fun w' kk => by
              have kw : Kp [] w w' := (kp_then HW2.out.1.1.kp kk).mono fun x hx hlt => by
                rw [List.mem_singleton] at hx
                have := HBI.out.2
                omega
              have hyw := HY.out.keep0 kw
              have h95 := HW.out.r95 n HNM.out.1 HNM.out.2
              exact oclone_any w' _ _ _ _ _ _ _ _ (hyw.hi n HNM.out.2) (hyw.hd n HNM.out.1 HNM.out.2) HLL.out.1.symm HLL.out.2.symm (by rw [HLL.out.1]; omega) (by rw [HLL.out.2]; omega)
            have hcc : cc ≤ 10000 := by have := H.out.2.2; omega
            have hsm1 : s.m ≤ 10000 := by have := HW.out.m; omega
            generalize y.ig n = ign at HSM2 HOC
            generalize y.ic n = icn at HSM2 HOC
            generalize y.dg n = dgn at HSM2 HOC
            generalize y.dc n = dcn at HSM2 HOC
            clear hw2 hen
            go_region_held3 (fun w' => w'.cell? ⟨pc, 2, none⟩ = some (.map (some B)) ∧ w'.cell? ⟨b7, 0, none⟩ = some (.slice (some ⟨ign, 0, none⟩) l1 icn) ∧ w'.cell? ⟨b7, 1, none⟩ = some (.slice (some ⟨dgn, 0, none⟩) l2 dcn) ∧ Kp [B] w2 w')
              (first
                | exact HSM2.out _ (Kp.refl _ _).drew
                | exact HSM2.out _ ((‹Sm w2 pc b7 B (.slice (some ⟨ign, 0, none⟩) l1 icn) (.slice (some ⟨dgn, 0, none⟩) l2 dcn) _›).2.2.2.trans (hk.mono (by simp)))
                | exact HSM2.out _ ((‹Sm w2 pc b7 B (.slice (some ⟨ign, 0, none⟩) l1 icn) (.slice (some ⟨dgn, 0, none⟩) l2 dcn) _›).2.2.2.trans hk6))
              (first
                | (go_at_call 51
                   refine (HOC.out _ (‹Sm w2 pc b7 B (.slice (some ⟨ign, 0, none⟩) l1 icn) (.slice (some ⟨dgn, 0, none⟩) l2 dcn) _›).2.2.2).mono ?_
                   rintro e w5 ⟨a1, e1, a2, e2, rfl, ⟨z1, r1⟩, ⟨z2, r2⟩, hk⟩
                   have hput := HW2.out.1.put (e1 := e1) (e2 := e2) hk.drew_l HNM.out.1 HNM.out.2 hsm1 hcc HLL.out.1.symm HLL.out.2.symm r1 z1 r2 z2
                   clear z1 r1 z2 r2
                   obtain ⟨w6, hrun, hcm6, hk6, hB5⟩ := hput
                   have H6 := Lib.hid (And.intro hcm6 (ranges_kp (ranges_kp HW2.out.2.2 hk.drew_l (by simp) (by simp)) hk6 (by simpa using HBN.out.1) (by simpa using HBN.out.2.1)))
                   clear hcm6 hB5))
            all_goals go_wp2_with fail
            all_goals
              go_roundw
              case rel => exact ⟨_, cnt1, cc + 1, Lib.hid H6.out.2, Lib.hid ⟨H6.out.1, H.out.2.1.step _, by have := H.out.2.2; have := HLT.out.2; omega⟩⟩
              case measure => rw [H6.out.2.left_eq, HLT.out.1]; exact HLT.out.2

end Go.Proofs.YtmbhhadghiojeaaGreat
