/- MarkTells, its walk. The package's table, as the rows of layer class list it: what it gives a walk, and a world that holds it. Conditions: none. MarkTells, as stated: for every number of blocks, of threads, every row of things, every owner, room and row of numbers the law returns true, and its arguments read as they did. Conditions: none; the package's table is tied to the program's text. Conditions: as each theorem states them. -/
import Derived.Carry
import Derived.Test.YtdbbkncjhnafdaaGreatDoorCards
import Derived.Test.YtdbbkncjhnafdaaGreatDoorTie
import Derived.WalkKit
import Derived.ProofKit
import Derived.OpenShut
import Derived.Deep.DeepHandedRow
import Derived.Lib.LaidTab
import Derived.Test.YtdbbkncjhnafdaaGreatDoorPt01
import Derived.Test.YtdbbkncjhnafdaaGreatDoorPt04
import Derived.Test.YtdbbkncjhnafdaaGreatDoorPt24
namespace Go.Proofs.YtdbbkncjhnafdaaGreatDoor
set_option linter.unusedVariables false
set_option linter.unusedSimpArgs false
set_option maxRecDepth 100000
open Go.RowKit

/-- Too great: the law looks at its wake. -/
theorem mtells_skip (HMd : Hid CMade) (w : World) (T0 : Cl.Tab w) (x y o room : Int) (hx : 0 ≤ x ∧ x ≤ 255) (hy : 0 ≤ y ∧ y ≤ 255) (ao ao2 : Option Addr) (m cap m2 cap2 : Nat) (hm : m ≤ maxLen) (hm2 : m2 ≤ maxLen) (hs : x < 1 ∨ 12 < x ∨ y < 1 ∨ 4 < y ∨ 60 < m ∨ 60 < m2) :
    Calls Tryz.prog 3 #[.int .u8 x, .int .u8 y, .slice ao m cap, .int .u8 o, .int .i64 room, .slice ao2 m2 cap2] w fun e w' => e = .returned (.bool true) ∧ Kp [] w w' := by
  have HWk := Lib.hid (wakes18 HMd w T0)
  by_cases h1 : x < 1 ∨ 12 < x ∨ y < 1 ∨ 4 < y ∨ 60 < m
  · have HGr := Lib.hid (great_is x y hx hy ao m cap w true (by simp [h1]))
    clear h1 hs
    go_enter Tryz.func3, Tryz.ntmps3
    go_wp2_with fail
    refine HGr.out.mono ?_
    rintro e w1 ⟨rfl, rfl⟩
    go_wp2_with fail
    refine HWk.out.mono ?_
    rintro e w2 ⟨rfl, k2⟩
    go_wp2_with fail
    go_ret
    exact ⟨rfl, k2⟩
  · have h2 : 60 < m2 := by omega
    have HGr := Lib.hid (great_is x y hx hy ao m cap w false (by simp [h1]))
    have h3 : (60 : Int) < (m2 : Int) := by omega
    clear h1 hs
    go_enter Tryz.func3, Tryz.ntmps3
    go_wp2_with fail
    refine HGr.out.mono ?_
    rintro e w1 ⟨rfl, rfl⟩
    go_wp2_with fail
    refine HWk.out.mono ?_
    rintro e w2 ⟨rfl, k2⟩
    go_wp2_with fail
    go_ret
    exact ⟨rfl, k2⟩

set_option maxHeartbeats 8000000 in
theorem mtells_main (HMd : Hid CMade) (w : World) (T0 : Cl.Tab w) (n T o : Nat) (room : Int) (hn1 : 1 ≤ n) (hn2 : n ≤ 12) (hT1 : 1 ≤ T) (hT4 : T ≤ 4) (ho : o ≤ 255) (ao ao2 : Option Addr) (cap cap2 : Nat) (l : List Th) (hl : l.length ≤ 60) (hA : Tgs w ao l) (fr : List Nat) (hfl : fr.length ≤ 60) (hF : Nms w ao2 fr) :
    Calls Tryz.prog 3 #[.int .u8 n, .int .u8 T, .slice ao l.length cap, .int .u8 o, .int .i64 room, .slice ao2 fr.length cap2] w fun e w' => e = .returned (.bool true) ∧ Kp [] w w' := by
  have HGr := Lib.hid (great_is n T (by omega) (by omega) ao l.length cap w false (by simp; omega))
  have HMa := Lib.hid (HMd.out w T n T0 hn1 hn2 hT1 hT4 ao cap l hl hA)
  have HF := Lib.hid hF
  have HT0 := Lib.hid T0
  obtain ⟨L, hL⟩ : ∃ L, L = l.length := ⟨_, rfl⟩
  obtain ⟨M, hM⟩ : ∃ M, M = fr.length := ⟨_, rfl⟩
  rw [← hL] at hl HGr
  rw [← hM] at hfl ⊢
  have HLM := Lib.hid (And.intro hL hM)
  have hM60 : ¬ ((60 : Int) < (M : Int)) := by omega
  have HMa2 : Hid (Calls Tryz.prog 10 #[.int .u8 n, .int .u8 T, .slice ao L cap] w fun e w' => ∃ sp hb qs t, t ≤ 100000 ∧ e = .returned (.tuple #[.pointer (some ⟨hb, 0, none⟩), .bool true]) ∧ Hm w.heap.size T n sp hb qs ({ (makesN T n l l.length).1 with H := kidsN (makesN T n l l.length).2 l (makesN T n l l.length).1.H l.length } : As) (makesN T n l l.length).2 t w w') := Lib.hid (by rw [hL]; exact HMa.out)
  rw [← hL]
  clear hA hF T0 hL hM HMa
  go_enter Tryz.func3, Tryz.ntmps3
  go_wp2_with fail
  refine HGr.out.mono ?_
  rintro e w0 ⟨rfl, rfl⟩
  go_wp2_with fail
  refine HMa2.out.mono ?_
  rintro e w1 ⟨sp, hb, qs, t, ht, rfl, hm⟩
  obtain ⟨O, V, F, hG, hPl⟩ := heap_good (T := T) (n := n) hT1 hT4 hn2 l
  have hPlen : (makesN T n l l.length).2.length = l.length := makesN_len l l.length
  obtain ⟨S, hS⟩ : ∃ S : As, S = { (makesN T n l l.length).1 with H := kidsN (makesN T n l l.length).2 l (makesN T n l l.length).1.H l.length } := ⟨_, rfl⟩
  rw [← hS] at hm
  have hSH : S.H = kidsN (makesN T n l l.length).2 l (makesN T n l l.length).1.H l.length := by rw [hS]
  have hSR : S.Rs = (makesN T n l l.length).1.Rs := by rw [hS]
  rw [← hSH, ← hSR] at hG
  clear hS hSH hSR
  generalize (makesN T n l l.length).2 = P at *
  obtain ⟨⟨t0, ht0, hw⟩, htab, hr1, hr2, hl1, hl2, hlen⟩ := hm.work (by omega)
  have hsf := hm.stat (by omega)
  have HB := Lib.hid hm.bel
  obtain ⟨B, hB⟩ : ∃ B, B = w.heap.size := ⟨_, rfl⟩
  rw [← hB] at hm hw hr1 hr2 hl1 hl2 hsf
  have HBw := Lib.hid hB
  clear hB HMa2 HGr
  obtain ⟨c0, d0, d1, d2, d3⟩ := hsf.cells
  obtain ⟨w2, hw2⟩ : ∃ w2, w2 = w1.alloc (.map #[] 0) := ⟨_, rfl⟩
  obtain ⟨mb, hmb⟩ : ∃ mb, mb = w1.heap.size := ⟨_, rfl⟩
  have k2 : Kp [] w1 w2 := by rw [hw2]; exact (Kp.refl _ _).alloc _
  have e2 : w2.heap.size = mb + 1 := by rw [hw2, World.size_alloc, hmb]
  have m2 : Mt w2 mb 5001 (fun _ => false) := by rw [hw2, hmb]; exact Mt.made w1 5001
  obtain ⟨bx, hbx⟩ : ∃ bx, bx = w2.heap.size := ⟨_, rfl⟩
  obtain ⟨w3, hw3⟩ : ∃ w3, w3 = w2.alloc (.cells #[.map (some mb)] 29) := ⟨_, rfl⟩
  have k3 : Kp [] w2 w3 := by rw [hw3]; exact (Kp.refl _ _).alloc _
  have r3 : w3.heap[bx]? = some (.cells #[.map (some mb)] 29 (0, 0)) := by rw [hw3, hbx]; exact heap_alloc_new _ _
  have k13 := k2.trans k3
  have tl3 : TLm bx mb (fun _ => false) w3 := ⟨r3, m2.keep k3 (by simp)⟩
  have c0 := kp_cell k13 (by simp) c0
  have d0 := kp_cell k13 (by simp) d0
  have d1 := kp_cell k13 (by simp) d1
  have d2 := kp_cell k13 (by simp) d2
  have d3 := kp_cell k13 (by simp) d3
  have H3 := Lib.hid (And.intro k13 (And.intro tl3 (And.intro hmb (show bx = mb + 1 by omega))))
  have HW := Lib.hid (And.intro ht (And.intro ht0 (And.intro hw (And.intro htab (And.intro hr1 (And.intro hr2 (And.intro hl1 (And.intro hl2 hlen))))))))
  have HG := Lib.hid (And.intro hG hPl)
  have HM := Lib.hid (And.intro hm hPlen)
  have HSf := Lib.hid hsf
  clear ht hm hPlen hG hPl ht0 hw htab hr1 hr2 hl1 hl2 hlen hsf k2 k3 r3 k13 tl3 m2 e2
  have hmk := @run_makeMap Tryz.prog
  go_upto_region 7 with (fail)
  clear hmk
  have hbx2 : bx = mb + 1 := H3.out.2.2.2
  rw [← hmb, ← hw2, ← hbx2, ← hw3]
  clear hbx2
  clear hw2 hw3 hbx hmb
  have hz : ((w3.alloc (.cells #[.nilIface, .int .i64 0, .int .i64 0, .int .i64 0, .int .u8 0, .int .i64 0, .nilFunc] 52)).drew).heap[w3.heap.size]? = some (.cells #[.nilIface, .int .i64 0, .int .i64 0, .int .i64 0, .int .u8 0, .int .i64 0, .nilFunc] 52 (0, 0)) := heap_alloc_new w3 _
  have hkz : Kp [] w3 ((w3.alloc (.cells #[.nilIface, .int .i64 0, .int .i64 0, .int .i64 0, .int .u8 0, .int .i64 0, .nilFunc] 52)).drew) := ((Kp.refl _ _).alloc _).drew
  have hrow : ((w3.alloc (.cells #[.iface 30 (.pointer (some ⟨B + 1, 0, none⟩)), .int .i64 T, .int .i64 0, .int .i64 n, .int .u8 o, .int .i64 room, .nilFunc] 52)).drew).heap[w3.heap.size]? = some (.cells #[.iface 30 (.pointer (some ⟨B + 1, 0, none⟩)), .int .i64 T, .int .i64 0, .int .i64 n, .int .u8 o, .int .i64 room, .nilFunc] 52 (0, 0)) := heap_alloc_new w3 _
  have hkb : Kp [] w3 ((w3.alloc (.cells #[.iface 30 (.pointer (some ⟨B + 1, 0, none⟩)), .int .i64 T, .int .i64 0, .int .i64 n, .int .u8 o, .int .i64 room, .nilFunc] 52)).drew) := ((Kp.refl _ _).alloc _).drew
  have hsf : (store ⟨w3.heap.size, 6, none⟩ (.func (.func 11) #[] #[.pointer (some ⟨bx, 0, none⟩)])).run Tryz.prog ((w3.alloc (.cells #[.iface 30 (.pointer (some ⟨B + 1, 0, none⟩)), .int .i64 T, .int .i64 0, .int .i64 n, .int .u8 o, .int .i64 room, .nilFunc] 52)).drew) = .ok () (((w3.alloc (.cells #[.iface 30 (.pointer (some ⟨B + 1, 0, none⟩)), .int .i64 T, .int .i64 0, .int .i64 n, .int .u8 o, .int .i64 room, .nilFunc] 52)).drew).setCell ⟨w3.heap.size, 6, none⟩ (.func (.func 11) #[] #[.pointer (some ⟨bx, 0, none⟩)])) := Li.store_one ((cell_of_row hrow 6).trans (show _ = some .nilFunc from rfl)) (free_of_row hrow 6) rfl
  have hk9 : Kp [] w3 (((w3.alloc (.cells #[.iface 30 (.pointer (some ⟨B + 1, 0, none⟩)), .int .i64 T, .int .i64 0, .int .i64 n, .int .u8 o, .int .i64 room, .nilFunc] 52)).drew).setCell ⟨w3.heap.size, 6, none⟩ (.func (.func 11) #[] #[.pointer (some ⟨bx, 0, none⟩)])) := kp_new_set hkb (b := w3.heap.size) ((Kp.refl _ _).setCell (.inl (by simp)) _) (Nat.le_refl _)
  have hr9 : (((w3.alloc (.cells #[.iface 30 (.pointer (some ⟨B + 1, 0, none⟩)), .int .i64 T, .int .i64 0, .int .i64 n, .int .u8 o, .int .i64 room, .nilFunc] 52)).drew).setCell ⟨w3.heap.size, 6, none⟩ (.func (.func 11) #[] #[.pointer (some ⟨bx, 0, none⟩)])).heap[w3.heap.size]? = some (.cells #[.iface 30 (.pointer (some ⟨B + 1, 0, none⟩)), .int .i64 T, .int .i64 0, .int .i64 n, .int .u8 o, .int .i64 room, .func (.func 11) #[] #[.pointer (some ⟨bx, 0, none⟩)]] 52 (0, 0)) := by rw [heap_setCell_same _ _ _ _ _ _ hrow]; rfl
  have hrow7 : ((w3.alloc (.cells #[.iface 30 (.pointer (some ⟨B + 1, 0, none⟩)), .int .i64 T, .int .i64 0, .int .i64 n, .int .u8 o, .int .i64 room, .func (.func 11) #[] #[.pointer (some ⟨bx, 0, none⟩)]] 52)).drew).heap[w3.heap.size]? = some (.cells #[.iface 30 (.pointer (some ⟨B + 1, 0, none⟩)), .int .i64 T, .int .i64 0, .int .i64 n, .int .u8 o, .int .i64 room, .func (.func 11) #[] #[.pointer (some ⟨bx, 0, none⟩)]] 52 (0, 0)) := heap_alloc_new w3 _
  have hk7 : Kp [] w3 ((w3.alloc (.cells #[.iface 30 (.pointer (some ⟨B + 1, 0, none⟩)), .int .i64 T, .int .i64 0, .int .i64 n, .int .u8 o, .int .i64 room, .func (.func 11) #[] #[.pointer (some ⟨bx, 0, none⟩)]] 52)).drew) := ((Kp.refl _ _).alloc _).drew
  have HC : Hid (∀ wx, Kp [] w3 wx → wx.cell? ⟨hb, 0, none⟩ = some (.pointer (some ⟨sp, 0, none⟩)) ∧ wx.cell? ⟨sp, 0, none⟩ = some (.pointer (some ⟨B + 1, 0, none⟩)) ∧ wx.cell? ⟨sp, 1, none⟩ = some (.int .i64 T) ∧ wx.cell? ⟨sp, 2, none⟩ = some (.int .i64 0) ∧ wx.cell? ⟨sp, 3, none⟩ = some (.int .i64 n) ∧ Kp [] w3 wx) := Lib.hid fun wx k => ⟨kp_cell k (by simp) c0, kp_cell k (by simp) d0, kp_cell k (by simp) d1, kp_cell k (by simp) d2, kp_cell k (by simp) d3, k⟩
  have HW9 := Lib.hid (And.intro hk9 hr9)
  have HW7 := Lib.hid (And.intro hk7 hrow7)
  have HKZ := Lib.hid (And.intro hkz hkb)
  clear hz hkz hrow hkb hk9 hr9 hrow7 hk7
  go_cut [16] (fun v16 we => v16 = .pointer (some ⟨w3.heap.size, 0, none⟩) ∧ Hid (Kp [] w3 we ∧ we.heap[w3.heap.size]? = some (.cells #[.iface 30 (.pointer (some ⟨B + 1, 0, none⟩)), .int .i64 T, .int .i64 0, .int .i64 n, .int .u8 o, .int .i64 room, .func (.func 11) #[] #[.pointer (some ⟨bx, 0, none⟩)]] 52 (0, 0))))
  case first =>
    have k0 : Kp [] w3 w3 := Kp.refl _ _
    go_region_held3 (fun wx => wx.cell? ⟨hb, 0, none⟩ = some (.pointer (some ⟨sp, 0, none⟩)) ∧ wx.cell? ⟨sp, 0, none⟩ = some (.pointer (some ⟨B + 1, 0, none⟩)) ∧ wx.cell? ⟨sp, 1, none⟩ = some (.int .i64 T) ∧ wx.cell? ⟨sp, 2, none⟩ = some (.int .i64 0) ∧ wx.cell? ⟨sp, 3, none⟩ = some (.int .i64 n) ∧ Kp [] w3 wx)
      (first
        | with_reducible assumption
        | exact HC.out _ HKZ.out.1
        | exact HC.out _ HKZ.out.2
        | exact HC.out _ HW7.out.1
        | exact HC.out _ HW9.out.1
        | exact HC.out _ ((Kp.refl [] _).drew)
        | exact HC.out _ (Kp.refl [] _))
      (fail)
    all_goals
      rename_i hHeld
      clear hHeld
    all_goals go_wp2_with fail
    all_goals go_meet
    all_goals first | exact ⟨rfl, HW7⟩ | exact ⟨rfl, HW9⟩
  case rest =>
    obtain ⟨rfl, HK4⟩ := hcut
    obtain ⟨w4, rfl⟩ : ∃ w4 : World, w4 = wc := ⟨_, rfl⟩
    clear HW7 HW9 HKZ HC hsf
    obtain ⟨ht, ht0, hw, htab, hr1, hr2, hl1, hl2, hlen⟩ := HW.out
    have k14 := H3.out.1.trans HK4.out.1
    have hw4 := hw.on k14
    obtain ⟨l4, har4⟩ := hw4.ar
    have HTo := Lib.hid (touched_any w4 (B + 1) B _ har4)
    have hPl200 : P.length ≤ 200 := by rw [HM.out.2, ← HLM.out.1]; omega
    have hwl : w.heap.size ≤ w1.heap.size := HB.out.size
    have KW1 : Kp [] w w1 := kp_of_below HB.out
    have HPc := Lib.hid (places_any (cap := cap2) (HM.out.1.on k14) hPl200 (l := fr) (by rw [← HLM.out.2]; exact hfl) ((HF.out.keep KW1).keep k14))
    rw [← HLM.out.2] at HPc
    have c0 := kp_cell HK4.out.1 (by simp) c0
    have d0 := kp_cell HK4.out.1 (by simp) d0
    have m0 := (cell_of_row HK4.out.2 0).trans (show _ = some (.iface 30 (.pointer (some ⟨B + 1, 0, none⟩))) from rfl)
    have m1 := (cell_of_row HK4.out.2 1).trans (show _ = some (.int .i64 T) from rfl)
    have m2 := (cell_of_row HK4.out.2 2).trans (show _ = some (.int .i64 0) from rfl)
    have m3 := (cell_of_row HK4.out.2 3).trans (show _ = some (.int .i64 n) from rfl)
    have m4 := (cell_of_row HK4.out.2 4).trans (show _ = some (.int .u8 o) from rfl)
    have m5 := (cell_of_row HK4.out.2 5).trans (show _ = some (.int .i64 room) from rfl)
    have m6 := (cell_of_row HK4.out.2 6).trans (show _ = some (.func (.func 11) #[] #[.pointer (some ⟨bx, 0, none⟩)]) from rfl)
    have HA4 := Lib.hid har4
    have HW4 := Lib.hid (And.intro hw4 (tab_keep htab k14 (by simp)))
    have HK14 := Lib.hid k14
    have HKW := Lib.hid KW1
    clear ht ht0 hw htab hr1 hr2 hl1 hl2 hlen k14 hw4 har4 hPl200 hwl KW1 d1 d2 d3
    go_wp2_with fail
    refine HTo.out.mono ?_
    rintro e w4' ⟨rfl, hw4'⟩
    obtain rfl : w4 = w4' := hw4'.symm
    clear hw4'
    have ht0' : (St.mk S.H t0 l4).t = t0 := rfl
    rw [ht0'] at *
    go_wp2_with fail
    refine HPc.out.mono ?_
    rintro e w5 ⟨ao5, c5, rfl, hrw5, k5⟩
    have m0 := kp_cell k5 (by simp) m0
    have m1 := kp_cell k5 (by simp) m1
    have m2 := kp_cell k5 (by simp) m2
    have m3 := kp_cell k5 (by simp) m3
    have m4 := kp_cell k5 (by simp) m4
    have m5 := kp_cell k5 (by simp) m5
    have m6 := kp_cell k5 (by simp) m6
    have c0 := kp_cell k5 (by simp) c0
    have d0 := kp_cell k5 (by simp) d0
    have HR5 := Lib.hid hrw5
    have HK5 := Lib.hid k5
    clear hrw5 k5 HTo HPc
    by_cases hbad : room < 1 ∨ 64 < room ∨ T ≤ o
    · have HMk := Lib.hid (fun gf => mark_arg (p := B + 1) (T := T) (n := n) (o := o) (by omega) ho room hbad ao5 M c5 w5 gf)
      have HWk := Lib.hid (fun (wq : World) (kq : Kp [] w4 wq) => wakes18 HMd wq (tab_keep HW4.out.2 kq (by simp)))
      have HT5 : Hid (∀ wq, Kp [] w4 wq → Calls Tryz.prog 12 #[.pointer (some ⟨B + 1, 0, none⟩)] wq fun e w' => e = .returned (.int .u64 t0) ∧ w' = wq) := Lib.hid fun wq kq => touched_any wq (B + 1) B _ (HA4.out.keep kq (by simp) (by simp))
      have hb1 : ((T : Int) ≤ (o : Int) ∨ room < 1 ∨ 64 < room) := by omega
      have KWw : Kp [] w w5 := (HKW.out.trans HK14.out).trans HK5.out
      have HKW5 := Lib.hid KWw
      have hTo1 : ¬ ((o : Int) < (T : Int)) ∨ (room < 1 ∨ 64 < room) := by omega
      clear KWw hb1 hTo1
      go_wp2_with fail
      refine (HMk.out _).mono ?_
      rintro e w6 ⟨rfl, k6⟩
      have c0 := kp_cell k6 (by simp) c0
      have d0 := kp_cell k6 (by simp) d0
      have K6 := Lib.hid (HK5.out.trans k6)
      have F6 := Lib.hid (HKW5.out.trans k6)
      have HT6 := Lib.hid (HT5.out w6 K6.out)
      have HW6 := Lib.hid (HWk.out w6 K6.out)
      have heq : ((t0 : Int) == (t0 : Int)) = true := by simp
      clear k6 m0 m1 m2 m3 m4 m5 m6 HMk HWk HT5
      go_upto_region 11 with (fail)
      go_cut [86] (fun v86 we => v86 = .bool true ∧ Hid (we = w6))
      case first =>
        by_cases hb1 : T ≤ o
        · have h1 : (T : Int) ≤ (o : Int) := by omega
          clear hbad
          go_wp2_with fail
          go_meet
          exact ⟨rfl, Lib.hid rfl⟩
        · have h1 : ¬ ((T : Int) ≤ (o : Int)) := by omega
          by_cases hb2 : room < 1
          · clear hbad
            go_wp2_with fail
            go_meet
            exact ⟨rfl, Lib.hid rfl⟩
          · have hb3 : 64 < room := by omega
            clear hbad
            go_wp2_with fail
            go_meet
            exact ⟨rfl, Lib.hid rfl⟩
      case rest =>
        obtain ⟨rfl, HE⟩ := hcut
        obtain rfl := HE.out
        clear HE hbad
        go_wp2_with fail
        refine HT6.out.mono ?_
        rintro e w7 ⟨rfl, hw7⟩
        obtain rfl : wc = w7 := hw7.symm
        go_wp2_with fail
        refine HW6.out.mono ?_
        rintro e w8 ⟨rfl, k8⟩
        have F8 := Lib.hid (F6.out.trans k8)
        clear k8
        go_wp2_with fail
        go_ret
        exact ⟨rfl, F8.out⟩
    · obtain ⟨rm, rfl⟩ : ∃ rm : Nat, room = rm := ⟨room.toNat, by omega⟩
      have hrm1 : 1 ≤ rm := by omega
      have hrm2 : rm ≤ 64 := by omega
      have hoT : o < T := by omega
      have n1 : ¬ ((T : Int) ≤ (o : Int)) := by omega
      have n2 : ¬ ((rm : Int) < 1) := by omega
      have n3 : ¬ ((64 : Int) < (rm : Int)) := by omega
      clear hbad
      obtain ⟨R, hR⟩ : ∃ R : List Nat, R = fr.map fun k => (atP P k).toNat := ⟨_, rfl⟩
      have hRl : R.length = M := by rw [hR, List.length_map, HLM.out.2]
      have hRo : ∀ y ∈ R, y = 0 ∨ (O y).isSome = true := fun y hy => by
        rw [hR, List.mem_map] at hy
        obtain ⟨k, _, rfl⟩ := hy
        rcases atP_ok HG.out.2 k with e | ⟨z, e, hz⟩
        · left; rw [e]; rfl
        · right; rw [e]; exact hz
      have z1 := H3.out.2.2.1
      have z2 := H3.out.2.2.2
      have z3 := lt_of_block H3.out.2.1.1
      have z4 := HK4.out.1.size
      have z5 := HK5.out.size
      have z6 := HW.out.2.2.2.2.2.2.1
      have z7 := HW.out.2.2.2.2.2.2.2.1
      have hRc : ∀ j, j < R.length → ∃ g o', ao5 = some ⟨g, o', none⟩ ∧ w4.heap.size ≤ g ∧ w5.cell? ⟨g, o' + j, none⟩ = some (.int .i64 (R.getD j 0)) := fun j hj => by
        rw [hRl] at hj
        obtain ⟨b, c, e, _, hcl⟩ := HR5.out.at (by omega) (by decide)
        have hblk := (HR5.out.block b (by rw [e, Gx.blk_some]; simp)).1
        have e1 : ao5 = some ⟨b, 0, none⟩ := by cases e; rfl
        refine ⟨b, 0, e1, hblk, ?_⟩
        rw [Nat.zero_add, hcl j (by omega)]
        have hjf : j < fr.length := by rw [← HLM.out.2]; exact hj
        have hat := atP_bd HG.out.1 HG.out.2 (fr.getD j 0)
        have e2 : R.getD j 0 = (atP P (fr.getD j 0)).toNat := by
          rw [hR, List.getD_eq_getElem?_getD, List.getElem?_map, List.getD_eq_getElem?_getD, List.getElem?_eq_getElem hjf]; rfl
        rw [e2, Int.toNat_of_nonneg hat.1]
        simp [plV, hj]
      have tl5 : TLm bx mb (fun _ => false) w5 := (H3.out.2.1.keep HK4.out.1 (by simp) (by simp)).keep HK5.out (by simp) (by simp)
      have hlen := HW.out.2.2.2.2.2.2.2.2
      have hmu := mu0_le (gpOf O S.H o true) S.H.length
      have hmn : 4900 * n * (muM (gpOf O S.H o true) S.H.length X0m + 1) ≤ 4900 * 12 * 1000 := Nat.mul_le_mul (by omega) (by omega)
      have HMk := Lib.hid (mark_is (o := o) (room := rm) (tel := true) (R := R) (ao := ao5) (cap := c5) (gf := .func (.func 11) #[] #[.pointer (some ⟨bx, 0, none⟩)]) (Sg := [bx, mb]) (TL := TLm bx mb) HG.out.1 (by omega) (by omega) hoT hrm1 hrm2 (HW4.out.1.on HK5.out) (tab_keep HW4.out.2 HK5.out (by simp)) (by
          have := block_lt_of_cell HW.out.2.2.2.1.c0
          simp only [List.mem_cons, List.not_mem_nil, or_false, not_or]
          exact ⟨HW.out.2.2.2.2.1, HW.out.2.2.2.2.2.1, by omega, by omega⟩) (by intro x hx; simp at hx; rcases hx with rfl | rfl | rfl | rfl <;> omega)
        (fun q ro h1 h2 => map_told bx mb (by omega) (by omega) (fun x w => by kernel_rfl) (fun tl w a h ha => tells_put bx mb tl w a h ha)) tl5 hRo (by
          intro j hj
          obtain ⟨g, o', e, h1, h2⟩ := hRc j hj
          exact ⟨g, o', e, by simp; omega, block_lt_of_cell h2, h2⟩) (by omega) (by
          have := HW.out.1
          have := HW.out.2.1
          omega))
      rw [hRl] at HMk
      have HRc := Lib.hid (And.intro hRl (And.intro hRo hRc))
      have HZ := Lib.hid (And.intro z1 (And.intro z2 (And.intro z3 (And.intro z4 (And.intro z5 (And.intro z6 (And.intro z7 hlen)))))))
      clear hR hRl hRo z1 z2 z3 z4 z5 z6 z7 hRc tl5 hlen hmu hmn
      go_wp2_with fail
      refine HMk.out.mono ?_
      rintro e w6 ⟨rfl, X, t', hX, htl, hw6, tl6, k6⟩
      have hMo : ∀ x, X.M x = true → (gpOf O S.H o true).own x = true := fun x hx => ((hX x).1 hx).own
      have hSx : ∀ g ∈ (B + 1) :: B :: [bx, mb], g = B + 1 ∨ g = B ∨ w1.heap.size ≤ g := fun g hg => by
        have z1 := HZ.out
        simp at hg
        rcases hg with e | e | e | e
        · exact .inl e
        · exact .inr (.inl e)
        · right; right; omega
        · right; right; omega
      have k16 : Kp ((B + 1) :: B :: [bx, mb]) w1 w6 := ((HK14.out.trans HK5.out).mono (by simp) : Kp ((B + 1) :: B :: [bx, mb]) w1 w5).trans k6
      obtain ⟨db, dc, hdh, hdc⟩ := HM.out.1.docs (by omega) k16 hSx
      have hlow := mkl_low HG.out.1 hMo
      have hc6 : w6.cell? ⟨hb, 0, none⟩ = some (.pointer (some ⟨sp, 0, none⟩)) := ((HSf.out.keep k16 hSx hw6.ty).cells).1
      have hRc6 : ∀ (wq : World), Kp [] w6 wq → ∀ j, j < R.length → ∃ g o', ao5 = some ⟨g, o', none⟩ ∧ wq.cell? ⟨g, o' + j, none⟩ = some (.int .i64 (R.getD j 0)) := fun wq kq j hj => by
        obtain ⟨g, o', e, h1, h2⟩ := HRc.out.2.2 j hj
        have z1 := HZ.out
        exact ⟨g, o', e, kp_cell kq (by simp) (kp_cell k6 (by simp; omega) h2)⟩
      have HMd2 := Lib.hid (fun (wq : World) (kq : Kp [] w6 wq) => marked_is (tel := true) (cap := c5) HG.out.1 (by omega) (hdh.on kq) ho HRc.out.2.1 (hRc6 wq kq) (by rw [HRc.out.1]; omega) X.M hX)
      have HRm := Lib.hid (fun (w7 : World) (b' c' : Nat) (k67 : Kp [] w6 w7) (hW : Ww w6.heap.size w7 b' c' (markL S.H X.M)) => HM.out.1.remark (t' := t') (by omega) k16 hSx ⟨t', Nat.le_refl _, hw6⟩ hlow k67 hW)
      obtain ⟨N, hN⟩ : ∃ N, N = S.H.length := ⟨_, rfl⟩
      rw [← hN, HRc.out.1] at HMd2
      rw [← hN] at hdc
      have HN := Lib.hid hN
      have hml : (markL S.H X.M).length = N := by rw [markL_len, hN]
      rw [hml] at HRm
      have HDc := Lib.hid (fun (wq : World) (kq : Kp [] w6 wq) => And.intro (kp_cell kq (by simp) hc6) (hdc wq kq))
      have c6 := hc6
      have f6 := hdc w6 (Kp.refl _ _)
      obtain ⟨e6, f6⟩ := f6
      have H6 := Lib.hid (And.intro hX (And.intro htl (And.intro hMo (And.intro hw6 (And.intro tl6 (And.intro k6 (And.intro k16 hRc6)))))))
      clear hX htl hMo hw6 tl6 k6 k16 hSx hdh hdc hlow hc6 hRc6 hml hN c0 d0 m0 m1 m2 m3 m4 m5 m6 HMk
      go_wp2_with fail
      go_cut [] (fun we => Hid (∃ w7 b' c', Kp [] w6 w7 ∧ Ww w6.heap.size w7 b' c' (markL S.H X.M) ∧ we = w7.setCell ⟨sp, 6, none⟩ (.slice (some ⟨b', 0, none⟩) N c')))
      case first =>
        go_region_with (first
          | (go_at_call 15
             refine Calls.mono (HMd2.out _ ?hk) ?_
             case hk => repeat (first | with_reducible exact Kp.refl _ _ | with_reducible refine Kp.drew ?_)
             rintro e w7 ⟨b7, q7, rfl, hW7, k7⟩
             have K7 : Hid (Kp [] w6 w7) := Lib.hid (by
               refine Kp.trans ?_ k7
               repeat (first | with_reducible exact Kp.refl _ _ | with_reducible refine Kp.drew ?_))
             obtain ⟨x1, x2, x3⟩ := HDc.out w7 K7.out
             have HW7 : Hid (Ww w6.heap.size w7 b7 q7 (markL S.H X.M)) := Lib.hid (hW7.low (by rw [markL_len]; have := HZ.out.2.2.2.2.2.2.2; omega) (by
               first | exact Nat.le_refl _ | (simp)))
             clear hW7 k7))
        all_goals go_wp2_with fail
        all_goals go_meet
        all_goals
          first
            | exact Lib.hid ⟨_, _, _, K7.out, HW7.out, rfl⟩
            | exact Lib.hid ⟨_, _, _, K7.out.drew, HW7.out.on ((Kp.refl [] _).drew), rfl⟩
            | exact Lib.hid ⟨_, _, _, K7.out.drew.drew, HW7.out.on (((Kp.refl [] _).drew).drew), rfl⟩
      case rest =>
        obtain ⟨w8, rfl⟩ : ∃ w8 : World, w8 = wc := ⟨_, rfl⟩
        obtain ⟨w7, b7, q7, k67, hW7, hw8⟩ := hcut.out
        have hm8 := HRm.out w7 b7 q7 k67 hW7
        rw [← hw8] at hm8
        have k78 : Kp [sp] w7 w8 := by rw [hw8]; exact (Kp.refl _ _).setCell (.inl (by simp)) _
        have k68 : Kp [sp] w6 w8 := (k67.mono (by simp)).trans k78
        have hsp1 := HM.out.1.splt (by omega)
        have z := HZ.out
        have tl8 : TLm bx mb X.tl w8 := H6.out.2.2.2.2.1.keep k68 (by simp; omega) (by simp; omega)
        obtain ⟨db8, dc8, hdh8, hdc8⟩ := hm8.docs (Sx := []) (by omega) (Kp.refl _ _) (by simp)
        have c8 := (hm8.stat (by omega)).cells.1
        have d8 := hdc8 w8 (Kp.refl _ _)
        have hRc8 : ∀ j, j < R.length → ∃ g o', ao5 = some ⟨g, o', none⟩ ∧ w8.cell? ⟨g, o' + j, none⟩ = some (.int .i64 (R.getD j 0)) := fun j hj => by
          obtain ⟨g, o', e, h1⟩ := H6.out.2.2.2.2.2.2.2 w7 k67 j hj
          obtain ⟨g2, o2, e', h3, h4⟩ := HRc.out.2.2 j hj
          have eg : g = g2 := by rw [e] at e'; cases e'; rfl
          exact ⟨g, o', e, kp_cell k78 (by simp; omega) h1⟩
        have hTd := told_is (tel := true) (cap := c5) (HG.out.1.dwM (by omega) H6.out.2.2.1) hdh8 ho HRc.out.2.1 hRc8 (by rw [HRc.out.1]; omega)
        have hml : (markL S.H X.M).length = N := by rw [markL_len, HN.out]
        rw [hml, HRc.out.1] at hTd
        have hd8 : w8.cell? ⟨sp, 6, none⟩ = some (.slice (some ⟨db8, 0, none⟩) N dc8) := by
          have := d8.1
          rw [show ({ S with H := markL S.H X.M } : As).H = markL S.H X.M from rfl, hml] at this
          exact this
        have HTd := Lib.hid hTd
        have HKW8 : Hid (Kp [] w w8) := Lib.hid (kp_of_below (by
          have hb8 := hm8.bel
          rw [HBw.out] at hb8
          exact hb8))
        have H8 := Lib.hid (And.intro hm8 (And.intro tl8 (hm8.stat (by omega)).tab))
        have hN1001 : N ≤ 1000 := by
          have := z.2.2.2.2.2.2.2
          have := HN.out
          omega
        clear hm8 k78 k68 hsp1 z tl8 hdh8 hdc8 d8 hRc8 hTd hml k67 hW7 hw8 hcut HMd2 HRm HDc c6 e6 f6
        go_wp2_with fail
        refine HTd.out.mono ?_
        rintro e w9 ⟨ro, C, rfl, hbl, hbn, hbi, hro, k9⟩
        have hCt : ∀ j, C.getD j false = X.tl j := fun j => Bool.eq_iff_iff.2 (((hbi j).trans (tld_mark HG.out.1 (by omega) H6.out.2.2.1 j)).trans (H6.out.2.1 trivial j).symm)
        have HC := Lib.hid (And.intro hbl (And.intro hbn (And.intro hCt k9)))
        have HTL : Hid (∀ wq, Kp [] w9 wq → wq.cell? ⟨bx, 0, none⟩ = some (.map (some mb)) ∧ ∀ i : Nat, i ≤ 100000 → (Instr.lookup 29 (.map (some mb)) (.int .i64 i) false).run Tryz.prog wq = .ok (.bool (X.tl i)) wq) := Lib.hid fun wq kq => by
          have h := (H8.out.2.1.keep k9 (by simp) (by simp)).keep kq (by simp) (by simp)
          exact ⟨(cell_of_row h.1 0).trans rfl, fun i hi => h.2.at hi⟩
        clear hbl hbn hbi hro k9 hCt HTd
        have c9 := kp_cell HC.out.2.2.2 (by simp) c8
        go_wp2_with fail
        go_loopg [21, 22] N (fun gg v21 v22 wr => ∃ i : Nat, i + gg = N ∧ v22 = .int .i64 i ∧ v21 = .int .i64 ((List.range i).countP X.tl : Nat) ∧ Hid (Kp [] w9 wr))
        case atStart => exact ⟨0, by omega, rfl, rfl, Lib.hid (Kp.refl _ _)⟩
        case round =>
          obtain ⟨i, hi, rfl, rfl, HR⟩ := hrel
          by_cases hlt : i < N
          · have cB := (HC.out.1.keep HR.out (by simp)).cell (i := i) (by rw [HC.out.2.1]; exact hlt)
            rw [HC.out.2.2.1 i] at cB
            have hlk : ∀ j, (Instr.lookup 29 (.map (some mb)) (.int .i64 i) false).run Tryz.prog (wr.drewN j) = .ok (.bool (X.tl i)) (wr.drewN j) := fun j => (HTL.out _ (HR.out.trans (Gx.kp_drewN _ _))).2 i (by omega)
            have cX := (HTL.out wr HR.out).1
            have hcs : (List.range (i + 1)).countP X.tl = (List.range i).countP X.tl + (X.tl i).toNat := by
              rw [List.range_succ, List.countP_append, List.countP_singleton]
              cases X.tl i <;> rfl
            have F := Lib.hid (HR.out.trans (Gx.kp_drewN wr 0))
            obtain ⟨cn, hcn⟩ : ∃ cn, cn = (List.range i).countP X.tl := ⟨_, rfl⟩
            have hcl : cn ≤ 1000 := by
              have := List.countP_le_length (p := X.tl) (l := List.range i)
              rw [List.length_range] at this
              omega
            rw [← hcn] at hcs ⊢
            have HCS := Lib.hid hcs
            generalize hbi : X.tl i = bi at *
            clear hcs hcn F
            cases bi
            · go_wp2_with fail
              go_quiet (fail)
              go_wp2_with fail
              go_roundg (N - (i + 1))
              case rel => exact ⟨i + 1, by omega, by go_num, by rw [HCS.out]; rfl, Lib.hid (HR.out.trans (Gx.kp_drewN _ _))⟩
              case measure => omega
            · go_wp2_with fail
              go_quiet (fail)
              go_wp2_with fail
              go_roundg (N - (i + 1))
              case rel => exact ⟨i + 1, by omega, by go_num, by rw [HCS.out]; go_num, Lib.hid (HR.out.trans (Gx.kp_drewN _ _))⟩
              case measure => omega
          · obtain rfl : i = N := by omega
            have hkr := HC.out.2.2.2.trans HR.out
            have cX := (HTL.out wr HR.out).1
            have tlr := H8.out.2.1.keep hkr (by simp) (by simp)
            have hlen := tlr.2.len 3
            have hcut : (List.range 5001).countP X.tl = (List.range i).countP X.tl := by
              have hb : ∀ z, X.tl z = true → z < i := fun z hz => by
                have hz2 := (H6.out.2.1 trivial z).1 hz
                have hg := hz2.1
                simp only [gpOf, Bool.and_eq_true] at hg
                have := ((HG.out.1.dw (by omega)).tb z hg.1).2.1
                rw [HN.out]; exact this
              have := cnt_cut X.tl i hb (5001 - i)
              rw [show i + (5001 - i) = 5001 by omega] at this
              exact this
            rw [hcut] at hlen
            have HSm := Lib.hid ((H8.out.1.on hkr).same (by omega) (by omega) hn2)
            have HWk := Lib.hid (fun (wq : World) (kq : Kp [] wr wq) => wakes18 HMd wq (tab_keep (tab_keep H8.out.2.2 hkr (by simp)) kq (by simp)))
            have cr := kp_cell HR.out (by simp) c9
            have F := Lib.hid (HKW8.out.trans hkr)
            obtain ⟨cn, hcn⟩ : ∃ cn, cn = (List.range i).countP X.tl := ⟨_, rfl⟩
            have hcl : cn ≤ 1000 := by
              have := List.countP_le_length (p := X.tl) (l := List.range i)
              rw [List.length_range] at this
              omega
            rw [← hcn] at hlen ⊢
            clear hkr tlr hcut hcn
            go_wp2_with fail
            refine HSm.out.mono ?_
            rintro e w10 ⟨rfl, k10⟩
            have HW10 := Lib.hid (HWk.out w10 k10)
            have F10 := Lib.hid (F.out.trans k10)
            clear k10
            go_wp2_with fail
            refine HW10.out.mono ?_
            rintro e w11 ⟨rfl, k11⟩
            have F11 := Lib.hid (F10.out.trans k11)
            clear k11
            go_wp2_with fail
            go_ret
            exact ⟨rfl, F11.out⟩
end Go.Proofs.YtdbbkncjhnafdaaGreatDoor

namespace Go.Proofs.YtdbbkncjhnafdaaGreatDoor
open Go.ChangeShapes Go.WideShapes Go.ChangeAt Go.RowKit

theorem Tryz.own : ownKnob Tryz.prog.godebug = none := by kernel_rfl
theorem Tryz.laidOut : laidOutB Tryz.prog = true := by kernel_rfl
theorem gTab : Tryz.prog.globalNamed "demesne/class.rooms" = some 0 := by kernel_rfl
theorem gTabType : (Tryz.prog.globals[0]?).map (·.type) = some 204 := by kernel_rfl
theorem gTabCells : Tryz.prog.cellsOf 204 = 4 := by kernel_rfl
theorem gIntCells : Tryz.prog.cellsOf 3 = 1 := by kernel_rfl

/-- What the rows' list gives: the table's cells hold its four numbers. -/
theorem tab_of {W : World} (h : laidMetH Tryz.prog [("demesne/class.rooms", Rows.laid_demesne_class_rooms)] W) : Cl.Tab W := by
  have t : Lib.TabIs Tryz.prog W "demesne/class.rooms" .i64 [1, 2, 4, 8] := Lib.tabIs_of_head (rest := []) gTab gTabType Tryz.underlying204 Tryz.underlying3 gIntCells gTabCells h
  exact ⟨t.cell gTab 0 (by decide), t.cell gTab 1 (by decide), t.cell gTab 2 (by decide), t.cell gTab 3 (by decide)⟩

/-- The settled world, the table laid into it. -/
noncomputable def laidWorld (os : Os) : World :=
  { World.holding Tryz.prog os ⟨#[], #[], []⟩ with heap := (World.holding Tryz.prog os ⟨#[], #[], []⟩).heap.modify 0 fun
      | .cells _ t frozen => .cells #[.int .i64 1, .int .i64 2, .int .i64 4, .int .i64 8] t frozen
      | o => o }

end Go.Proofs.YtdbbkncjhnafdaaGreatDoor

namespace Go.Proofs.YtdbbkncjhnafdaaGreatDoor
set_option linter.unusedVariables false
set_option linter.unusedSimpArgs false
set_option maxRecDepth 100000
open Go.ChangeShapes Go.WideShapes Go.ChangeAt Go.RowKit

theorem markTells_contract (H : Type) (enc : TypeId × Value → H) (W : World) (base : Nat) (args : Array Value) (ds gs : List (DataW H)) (before : List MemPlace)
    (hval : ∀ (j : Nat) t v, Tryz.f3.params[j]? = some t → args[j]? = some v → Value.okWide Tryz.prog W .any base t v)
    (hW : DataW.Whole enc Tryz.prog Tryz.f3.params.toList Rows.markTellsSpec.vars false W args.toList ds gs before) (hL : laidMetH Tryz.prog Rows.markTellsRow.laid W) :
    Calls Tryz.prog 3 args W fun e W' => ∃ v, e = .returned v ∧ Rows.markTellsSpec.post enc Tryz.prog Tryz.f3 false true false false W args v W' := by
  have hW' := hW
  obtain ⟨p, q, hA0, hV, rfl, hfz, hnd⟩ := hW
  have hA : DataW.TrodAll enc Tryz.prog W 0 (fun _ => true) true Tryz.f3.params.toList args.toList ds p := hA0
  rw [Tryz.params3] at hA hval
  obtain ⟨v0, v1, v2, v3, v4, v5, d0, d1, d2, d3, d4, d5, p0, p1, p2, p3, p4, p5, rfl, rfl, rfl, h0, h1, h2, h3, h4, h5⟩ := trodAll_six hA
  obtain ⟨x, rfl, _, _, w0⟩ := open_int Tryz.underlying5 (hval 0 5 v0 rfl rfl) h0
  obtain ⟨x0, x1⟩ := bounds_u8 w0
  obtain ⟨y, rfl, _, _, w1⟩ := open_int Tryz.underlying5 (hval 1 5 v1 rfl rfl) h1
  obtain ⟨y0, y1⟩ := bounds_u8 w1
  obtain ⟨ao, cap, L, rfl, hlm, hLa⟩ := open_things18 (hval 2 22 v2 rfl rfl) h2
  obtain ⟨z, rfl, _, _, w3⟩ := open_int Tryz.underlying5 (hval 3 5 v3 rfl rfl) h3
  obtain ⟨z0, z1⟩ := bounds_u8 w3
  obtain ⟨rm, rfl, _, _, w4⟩ := open_int Tryz.underlying3 (hval 4 3 v4 rfl rfl) h4
  obtain ⟨ao2, cap2, fr, rfl, hfm, hFa⟩ := open_nums (hval 5 23 v5 rfl rfl) h5
  have hT : Cl.Tab W := tab_of hL
  have fin : ∀ (e : Ending) (W' : World), (e = .returned (.bool true) ∧ Kp [] W W') → ∃ v, e = .returned v ∧ Rows.markTellsSpec.post enc Tryz.prog Tryz.f3 false true false false W #[.int .u8 x, .int .u8 y, .slice ao L.length cap, .int .u8 z, .int .i64 rm, .slice ao2 fr.length cap2] v W' := by
    rintro e W' ⟨rfl, kp⟩
    exact ⟨_, rfl, post_true Tryz.laidOut (by kernel_rfl) rfl Tryz.underlying4 rfl rfl hW' kp.to_below⟩
  by_cases hs : x < 1 ∨ 12 < x ∨ y < 1 ∨ 4 < y ∨ 60 < L.length ∨ 60 < fr.length
  · exact (mtells_skip (Lib.hid made_all) W hT x y z rm ⟨x0, x1⟩ ⟨y0, y1⟩ ao ao2 L.length cap fr.length cap2 hlm hfm hs).mono fin
  · obtain ⟨N, rfl⟩ : ∃ N : Nat, x = N := ⟨x.toNat, by omega⟩
    obtain ⟨T, rfl⟩ : ∃ T : Nat, y = T := ⟨y.toNat, by omega⟩
    obtain ⟨o, rfl⟩ : ∃ o : Nat, z = o := ⟨z.toNat, by omega⟩
    exact (mtells_main (Lib.hid made_all) W hT N T o rm (by omega) (by omega) (by omega) (by omega) (by omega) ao ao2 cap cap2 L (by omega) hLa fr (by omega) hFa).mono fin

theorem markTells_laid_met (os : Os) : laidMet Tryz.prog Rows.markTellsRow.laid ((laidWorld os).forCall (fun _ _ => 0) ⟨#[], #[.int .u8 0, .int .u8 0, .slice none 0 0, .int .u8 0, .int .i64 0, .slice none 0 0], []⟩).memory :=
  laidMet_of_run' 8 (by kernel_rfl) (by kernel_rfl)
theorem markTells_reads (os : Os) {H : Type} (enc : TypeId × Value → H) : ∃ places, DataW.whole enc Tryz.prog ((laidWorld os).forCall (fun _ _ => 0) ⟨#[], #[.int .u8 0, .int .u8 0, .slice none 0 0, .int .u8 0, .int .i64 0, .slice none 0 0], []⟩).memory Tryz.f3.params.toList Rows.markTellsSpec.vars false #[Value.int .u8 0, Value.int .u8 0, Value.slice none 0 0, Value.int .u8 0, Value.int .i64 0, Value.slice none 0 0].toList 8 = some ([.lit (.int .u8 0), .lit (.int .u8 0), .nil, .lit (.int .u8 0), .lit (.int .i64 0), .nil], [], places) :=
  ⟨[], by kernel_rfl⟩

set_option maxRecDepth 100000 in
theorem markTells_lifted (os : Os) (started : os.Started) (H : Type) (enc : TypeId × Value → H) (F : Stop.Interp) :
    ReturnsInHanded {} Tryz.checked os 3 .any ((OpenSpec.ofChange Rows.markTellsSpec).preRow enc Tryz.prog Tryz.f3 Rows.markTellsRow.domain false Rows.markTellsRow.laid) (((OpenSpec.ofChange Rows.markTellsSpec).at F).post enc Tryz.prog Tryz.f3 false true false false) := by
  obtain ⟨places, hx⟩ := markTells_reads os enc
  refine returnsInHanded_of_row (C := Tryz.checked) (s := OpenSpec.ofChange Rows.markTellsSpec) Tryz.own started (by kernel_rfl) Tryz.func3
    (witness_row_at (enc := enc) (C := Tryz.checked) false (laidWorld os) #[.int .u8 0, .int .u8 0, .slice none 0 0, .int .u8 0, .int .i64 0, .slice none 0 0] rfl (by kernel_rfl) (by kernel_rfl) (by kernel_rfl)
      (OpenSpec.preRow_of_cond 8 hx (by kernel_rfl) (fun k hk => by cases hk) (by kernel_rfl) (markTells_laid_met os))) ?_
  intro W base args ds gs before hval hW _ _ _ hL _ _
  exact markTells_contract H enc W base args ds gs before hval hW hL

theorem markTells_said : Rows.MarkTellsSaid :=
  OpenClaim.holds_of_cond 3 Tryz.f3 rfl rfl rfl rfl rfl rfl rfl ⟨rfl, rfl, rfl, rfl, rfl⟩ rfl rfl rfl rfl rfl (by kernel_rfl) Tryz.func3 (by kernel_rfl)
    (of_decide_eq_true (by kernel_rfl)) (by unfold Func.isWrapper; first | (rw [if_pos (by decide +kernel)]; kernel_rfl) | (rw [if_neg (by decide +kernel)]; exact ⟨rfl, rfl⟩))
    (fun os started H enc _ F => by rw [OpenClaim.pre_eq_preRow]; exact markTells_lifted os started H enc F)

theorem markTells_plain (f : FuncId) (fn : Func) (hf : Tryz.pinned.checked.prog.funcNamed "demesne/demesnelaw18.MarkTells" = some f) (hfn : Tryz.pinned.checked.prog.funcs[f]? = some fn) :
    false = Tryz.pinned.checked.prog.looks [] ∧ ∀ (j : Nat) t, fn.params[j]? = some t → Tryz.pinned.checked.prog.wantsStandIn t = false := by
  obtain rfl : f = 3 := Option.some.inj ((show Tryz.prog.funcNamed "demesne/demesnelaw18.MarkTells" = some 3 by kernel_rfl).symm.trans hf) |>.symm
  obtain rfl : fn = Tryz.f3 := (Option.some.inj (Tryz.func3.symm.trans hfn)).symm
  refine ⟨by kernel_rfl, fun j t ht => ?_⟩
  rw [Tryz.params3] at ht
  have hm : t ∈ [5, 5, 22, 5, 3, 23] := by simpa using Array.mem_of_getElem? ht
  have hall : ([5, 5, 22, 5, 3, 23].all fun u => !Tryz.prog.wantsStandIn u) = true := by kernel_rfl
  exact (show Tryz.prog.wantsStandIn t = false by simpa using List.all_eq_true.1 hall t hm)

/-- THE STATEMENT. -/
theorem markTells_card : Rows.MarkTellsCardSaid :=
  Claim7.holds_tied_plain_at .later [] _ _ _ _ markTells_said (fun _ h => by cases h) (by kernel_rfl) (fun _ h => by cases h) markTells_row_tie rfl ⟨rfl, rfl⟩ (by kernel_rfl) rfl markTells_plain (by kernel_rfl)

end Go.Proofs.YtdbbkncjhnafdaaGreatDoor
