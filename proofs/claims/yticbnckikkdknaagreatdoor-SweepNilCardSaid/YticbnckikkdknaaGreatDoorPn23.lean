/- Package sweep, its walks: a block is emptied; a large object is swept. Package sweep, its walks: a Small block is swept. Package sweep, its walks: Sweep. Sweeping, as the document says it: a header is taken; blocks that wait are given back. Law 18: the heap, its words turned on both sides. Conditions: as each theorem states them. -/
import Derived.Test.YticbnckikkdknaaGreatDoorPn11
import Derived.Test.YticbnckikkdknaaGreatDoorPn18
import Derived.Test.YticbnckikkdknaaGreatDoorPn22
namespace Go.Proofs.YticbnckikkdknaaGreatDoor
set_option linter.unusedVariables false
set_option linter.unusedSimpArgs false
set_option maxRecDepth 100000
open Go.RowKit

section
variable {T n p r q t o : Nat} {wk : Bool} {vs : Nat → Value} {H : List Int} {R : Nat → List Int} {w : World}
theorem mw_set (h : Mw T 0 n p r q vs H R t w) (ht : t ≤ 800000) (b : Nat) (hb : b < n) (k c rr ow : Int) (hk : 0 ≤ k) (hc : 0 ≤ c) (hr : 0 ≤ rr) (ho : 0 ≤ ow) (hm : Tb.mayE k c rr ow = true) :
    Calls Tryz.prog 119 #[.iface 31 (.pointer (some ⟨p, 0, none⟩)), .agg #[.int .i64 T, .int .i64 ((0 : Nat) : Int), .int .i64 n], .int .i64 b, .agg #[.int .u8 k, .int .u8 c, .int .u8 rr, .int .u8 ow]] w fun e w' => e = .returned (.tuple #[]) ∧ Mw T 0 n p r q vs (H.set (3 + T + 0 + b) (Tb.wordE k c rr ow)) R (t + 1) w' ∧ Kp [p, r] w w' := by
  obtain ⟨t0, ht0, hh⟩ := h.hw
  refine (g_set_in hh (by omega) b hb k c rr ow hk hc hr ho hm).mono ?_
  rintro e w' ⟨rfl, h2, k2⟩
  exact ⟨rfl, h.turn k2 ⟨t0 + 1, by omega, h2⟩ (by simp), k2⟩
theorem start_at (b : Nat) (hb : b < n) (hT : T ≤ 64) (hn : n ≤ 64) (w : World) : Calls Tryz.prog 70 #[.agg #[.int .i64 T, .int .i64 ((0 : Nat) : Int), .int .i64 n], .int .i64 b] w fun e w' => e = .returned (.int .i64 (hd T n b : Nat)) ∧ Kp [] w w' := by
  unfold hd
  exact Ly.start_is T ((0 : Nat) : Int) n b ((3 + T + 0 + n + 32 * b : Nat) : Int) w (by rw [Ly.rowP_in (by omega) (by omega)]; omega) (by omega) (by omega) (by omega) (by omega) (by omega) (by omega)
theorem hd_le (b : Nat) (hb : b < n) (hT : T ≤ 64) (hn : n ≤ 64) : hd T n b ≤ 4000 := by unfold hd; omega

set_option maxHeartbeats 4000000 in
/-- A block of which all cells are Listed waits, or goes back. -/
theorem sw_empty (h : Mw T 0 n p r q vs H R t w) (ht : t ≤ 600000) (ho : o < 64) (b : Nat) (hb : b < n) :
    Calls Tryz.prog 114 #[swV T n p q o wk, .int .i64 b] w fun e w' => e = .returned (.tuple #[]) ∧ ∃ vs', Mw T 0 n p r q vs' (swEmpty T n o b wk (H, R)).1 (swEmpty T n o b wk (H, R)).2 (t + 5) w' ∧ Mk p r q vs vs' w w' := by
  have hf := h.fit
  have hlt := h.lt
  have hap := fun {g : Nat} {cs : Array Value} (hg : w.heap.size ≤ g) => h.lt
  have hS := hd_le (T := T) (n := n) b hb hf.2.1 hf.2.2.2
  have HSt := Lib.hid (start_at (T := T) (n := n) b hb hf.2.1 hf.2.2.2)
  have HSet := Lib.hid (fun (wq : World) (hq : Mw T 0 n p r q vs H R t wq) => mw_set hq (by omega) b hb 4 0 0 o (by omega) (by omega) (by omega) (by omega) (mayE4 ho))
  have HDr : Hid (∀ wq, Mw T 0 n p r q vs (H.set (3 + T + 0 + b) (Tb.wordE 4 0 0 o)) R (t + 1) wq → Calls Tryz.prog 145 #[.pointer (some ⟨q, 0, none⟩), .int .i64 (hd T n b : Nat), .int .i64 ((hd T n b : Nat) + 32)] wq fun e w' => (∃ y, e = .returned (.int .i64 y)) ∧ ∃ vs', Mw T 0 n p r q vs' (H.set (3 + T + 0 + b) (Tb.wordE 4 0 0 o)) (Li.dropR R (hd T n b) ((hd T n b : Nat) + 32)) (t + 1) w' ∧ Mk p r q vs vs' wq w') := Lib.hid fun wq hq => by
    refine (Li.drop_is wq q vs R _ _ hq.ls (hq.lk.len hq.sm)).mono ?_
    rintro e w' ⟨rfl, vs2, L, K⟩
    exact ⟨⟨_, rfl⟩, vs2, hq.list L K (hq.lk.drop _ _), Mk.of_lk K⟩
  have HBk : Hid (∀ wq vq, Mw T 0 n p r q vq (H.set (3 + T + 0 + b) (Tb.wordE 4 0 0 o)) (Li.dropR R (hd T n b) ((hd T n b : Nat) + 32)) (t + 1) wq → Calls Tryz.prog 78 #[swV T n p q o wk, .int .i64 b, .agg #[.int .u8 4, .int .u8 0, .int .u8 0, .int .u8 o]] wq fun e w' => e = .returned (.tuple #[]) ∧ Mw T 0 n p r q vq (swEmpty T n o b wk (H, R)).1 (swEmpty T n o b wk (H, R)).2 (t + 5) w' ∧ Kp [p, r] wq w') := Lib.hid fun wq vq hq => sw_back hq (by omega) b 4 0 0 o (by omega) (by omega) _ rfl
  have HM : Hid (∀ wq, Kp [] w wq → Mw T 0 n p r q vs H R t wq) := Lib.hid fun wq k => h.on k
  have HKy : Hid (∀ {w1 w2 : World} {vq vz : Nat → Value}, Kp [p, r] w1 w2 → Mk p r q vq vz w2 w2 → True) := Lib.hid fun _ _ => trivial
  have HMk : Hid (∀ {w1 w2 : World} {vq : Nat → Value}, Kp [p, r] w1 w2 → Mk p r q vq vq w1 w2) := Lib.hid fun k' => Mk.of_kp k' (by simp)
  have HRo : Hid (∀ {wa wb : World} {vq vz : Nat → Value} {cs : Array Value} {U : TypeId} {g : Nat} {HH : List Int} {RR : Nat → List Int} {tt : Nat}, Mw T 0 n p r q vq HH RR tt wa → Mk p r q vq vz wa wb → U ≠ 99 → U ≠ 57 → U ≠ 172 → U ≠ 3 → wa.heap[g]? = some (.cells cs U (0, 0)) → wb.heap[g]? = some (.cells cs U (0, 0))) := Lib.hid fun hm k e1 e2 e3 e4 hg => hm.row k hg e1 e2 e3 e4
  have kb := swW_kp w T n p q o wk
  have rb := swW_row w T n p q o wk
  obtain ⟨w1, hw1⟩ : ∃ w1, w1 = swW w T n p q o wk := ⟨_, rfl⟩
  rw [← hw1] at kb rb
  obtain ⟨w2, hw2⟩ : ∃ w2, w2 = w1.alloc (.cells #[.int .u8 4, .int .u8 0, .int .u8 0, .int .u8 o] 110) := ⟨_, rfl⟩
  have k2 : Kp [] w1 w2 := by rw [hw2]; exact (Kp.refl _ _).alloc _
  have r2 := k2.row (by simp) rb
  have s2 : w2.heap[w1.heap.size]? = some (.cells #[.int .u8 4, .int .u8 0, .int .u8 0, .int .u8 o] 110 (0, 0)) := by rw [hw2]; exact heap_alloc_new _ _
  obtain ⟨eb, heb⟩ : ∃ eb, eb = w1.heap.size := ⟨_, rfl⟩
  rw [← heb] at s2
  have c0 := (cell_of_row rb 0).trans (show _ = some (.iface 31 (.pointer (some ⟨p, 0, none⟩))) from rfl)
  have c1 := (cell_of_row rb 1).trans (show _ = some (.int .i64 T) from rfl)
  have c2 := (cell_of_row rb 2).trans (show _ = some (.int .i64 ((0 : Nat) : Int)) from rfl)
  have c3 := (cell_of_row rb 3).trans (show _ = some (.int .i64 n) from rfl)
  have c4 := (cell_of_row rb 4).trans (show _ = some (.int .u8 o) from rfl)
  have c5 := (cell_of_row rb 5).trans (show _ = some (.pointer (some ⟨q, 0, none⟩)) from rfl)
  have c6 := (cell_of_row rb 6).trans (show _ = some (.bool wk) from rfl)
  have H2 := Lib.hid (And.intro (kb.trans k2) (And.intro r2 s2))
  have Hw2 := Lib.hid hw2
  have Heb := Lib.hid heb
  clear hw2 heb
  unfold swC at H2
  unfold swW swC at hw1
  have e32 : IntKind.i64.wrap ((hd T n b : Nat) + 32 : Int) = (hd T n b : Nat) + 32 := IntWalk.i64_in _ (by omega)
  generalize (H.set (3 + T + 0 + b) (Tb.wordE 4 0 0 o)) = H1 at *
  generalize (Li.dropR R (hd T n b) ((hd T n b : Nat) + 32)) = R1 at *
  generalize hd T n b = S at *
  generalize swEmpty T n o b wk (H, R) = fin at *
  clear h ht ho hb hf hlt hap hS kb rb k2 r2 s2 HKy
  go_enter Tryz.func114, Tryz.ntmps114
  go_upto_region 1 with (fail)
  rw [← hw1]
  clear hw1
  go_upto_region 2 with (fail)
  rw [← Hw2.out, ← Heb.out]
  clear Hw2 Heb c0 c1 c2 c3 c4 c5 c6
  have c0 := (cell_of_row H2.out.2.1 0).trans (show _ = some (.iface 31 (.pointer (some ⟨p, 0, none⟩))) from rfl)
  have c1 := (cell_of_row H2.out.2.1 1).trans (show _ = some (.int .i64 T) from rfl)
  have c2 := (cell_of_row H2.out.2.1 2).trans (show _ = some (.int .i64 ((0 : Nat) : Int)) from rfl)
  have c3 := (cell_of_row H2.out.2.1 3).trans (show _ = some (.int .i64 n) from rfl)
  have c4 := (cell_of_row H2.out.2.1 4).trans (show _ = some (.int .u8 o) from rfl)
  have c5 := (cell_of_row H2.out.2.1 5).trans (show _ = some (.pointer (some ⟨q, 0, none⟩)) from rfl)
  have c6 := (cell_of_row H2.out.2.1 6).trans (show _ = some (.bool wk) from rfl)
  have d0 := (cell_of_row H2.out.2.2 0).trans (show _ = some (.int .u8 4) from rfl)
  have d1 := (cell_of_row H2.out.2.2 1).trans (show _ = some (.int .u8 0) from rfl)
  have d2 := (cell_of_row H2.out.2.2 2).trans (show _ = some (.int .u8 0) from rfl)
  have d3 := (cell_of_row H2.out.2.2 3).trans (show _ = some (.int .u8 o) from rfl)
  go_wp2_with fail
  refine (HSet.out _ (HM.out _ H2.out.1)).mono ?_
  rintro e w3 ⟨rfl, h3, k3⟩
  have m3 := HMk.out (vq := vs) k3
  have r3 := HRo.out (HM.out _ H2.out.1) m3 (by decide) (by decide) (by decide) (by decide) H2.out.2.1
  have s3 := HRo.out (HM.out _ H2.out.1) m3 (by decide) (by decide) (by decide) (by decide) H2.out.2.2
  have H3 := Lib.hid (And.intro h3 (And.intro ((HMk.out (vq := vs) (H2.out.1.mono (by simp))).trans m3) (And.intro r3 s3)))
  clear h3 k3 m3 r3 s3 c0 c1 c2 c3 c4 c5 c6 d0 d1 d2 d3 HSet HM
  have c0 := (cell_of_row H3.out.2.2.1 0).trans (show _ = some (.iface 31 (.pointer (some ⟨p, 0, none⟩))) from rfl)
  have c1 := (cell_of_row H3.out.2.2.1 1).trans (show _ = some (.int .i64 T) from rfl)
  have c2 := (cell_of_row H3.out.2.2.1 2).trans (show _ = some (.int .i64 ((0 : Nat) : Int)) from rfl)
  have c3 := (cell_of_row H3.out.2.2.1 3).trans (show _ = some (.int .i64 n) from rfl)
  have c4 := (cell_of_row H3.out.2.2.1 4).trans (show _ = some (.int .u8 o) from rfl)
  have c5 := (cell_of_row H3.out.2.2.1 5).trans (show _ = some (.pointer (some ⟨q, 0, none⟩)) from rfl)
  have c6 := (cell_of_row H3.out.2.2.1 6).trans (show _ = some (.bool wk) from rfl)
  go_wp2_with fail
  refine (HSt.out _).mono ?_
  rintro e w4 ⟨rfl, k4⟩
  have r4 := k4.row (by simp) H3.out.2.2.1
  have s4 := k4.row (by simp) H3.out.2.2.2
  have H4 := Lib.hid (And.intro (H3.out.1.on k4) (And.intro (H3.out.2.1.trans (HMk.out (k4.mono (by simp)))) (And.intro r4 s4)))
  clear k4 r4 s4 c0 c1 c2 c3 c4 c5 c6 HSt
  have c0 := (cell_of_row H4.out.2.2.1 0).trans (show _ = some (.iface 31 (.pointer (some ⟨p, 0, none⟩))) from rfl)
  have c1 := (cell_of_row H4.out.2.2.1 1).trans (show _ = some (.int .i64 T) from rfl)
  have c2 := (cell_of_row H4.out.2.2.1 2).trans (show _ = some (.int .i64 ((0 : Nat) : Int)) from rfl)
  have c3 := (cell_of_row H4.out.2.2.1 3).trans (show _ = some (.int .i64 n) from rfl)
  have c4 := (cell_of_row H4.out.2.2.1 4).trans (show _ = some (.int .u8 o) from rfl)
  have c5 := (cell_of_row H4.out.2.2.1 5).trans (show _ = some (.pointer (some ⟨q, 0, none⟩)) from rfl)
  have c6 := (cell_of_row H4.out.2.2.1 6).trans (show _ = some (.bool wk) from rfl)
  go_wp2_with fail
  refine (HDr.out _ H4.out.1).mono ?_
  rintro e w5 ⟨⟨y, rfl⟩, vs5, h5, k5⟩
  have r5 := HRo.out H4.out.1 k5 (by decide) (by decide) (by decide) (by decide) H4.out.2.2.1
  have s5 := HRo.out H4.out.1 k5 (by decide) (by decide) (by decide) (by decide) H4.out.2.2.2
  have H5 := Lib.hid (And.intro h5 (And.intro (H4.out.2.1.trans k5) (And.intro r5 s5)))
  clear h5 k5 r5 s5 c0 c1 c2 c3 c4 c5 c6 HDr
  have c0 := (cell_of_row H5.out.2.2.1 0).trans (show _ = some (.iface 31 (.pointer (some ⟨p, 0, none⟩))) from rfl)
  have c1 := (cell_of_row H5.out.2.2.1 1).trans (show _ = some (.int .i64 T) from rfl)
  have c2 := (cell_of_row H5.out.2.2.1 2).trans (show _ = some (.int .i64 ((0 : Nat) : Int)) from rfl)
  have c3 := (cell_of_row H5.out.2.2.1 3).trans (show _ = some (.int .i64 n) from rfl)
  have c4 := (cell_of_row H5.out.2.2.1 4).trans (show _ = some (.int .u8 o) from rfl)
  have c5 := (cell_of_row H5.out.2.2.1 5).trans (show _ = some (.pointer (some ⟨q, 0, none⟩)) from rfl)
  have c6 := (cell_of_row H5.out.2.2.1 6).trans (show _ = some (.bool wk) from rfl)
  have d0 := (cell_of_row H5.out.2.2.2 0).trans (show _ = some (.int .u8 4) from rfl)
  have d1 := (cell_of_row H5.out.2.2.2 1).trans (show _ = some (.int .u8 0) from rfl)
  have d2 := (cell_of_row H5.out.2.2.2 2).trans (show _ = some (.int .u8 0) from rfl)
  have d3 := (cell_of_row H5.out.2.2.2 3).trans (show _ = some (.int .u8 o) from rfl)
  go_wp2_with fail
  refine (HBk.out _ _ H5.out.1).mono ?_
  rintro e w6 ⟨rfl, h6, k6⟩
  have H6 := Lib.hid (And.intro h6 (H5.out.2.1.trans (HMk.out k6)))
  clear h6 k6 c0 c1 c2 c3 c4 c5 c6 d0 d1 d2 d3
  go_wp2_with fail
  go_end0
  exact ⟨rfl, vs5, H6.out⟩

theorem fw_may (o : Nat) (ho : o < 64) : Wd.mayB 0 0 o 0 0 false false = true := by
  rw [Wd.mayB_iff]; simp; omega
set_option maxHeartbeats 8000000 in
/-- A large object is swept. -/
theorem sw_large (h : Mw T 0 n p r q vs H R t w) (ht : t ≤ 600000) (ho : o < 64) (b : Nat) (hb : b < n) (run : Nat) (hr1 : 1 ≤ run) (hr3 : run ≤ 3) :
    Calls Tryz.prog 77 #[swV T n p q o wk, .int .i64 b, .agg #[.int .u8 2, .int .u8 0, .int .u8 run, .int .u8 o]] w fun e w' => e = .returned (.tuple #[]) ∧ Mw T 0 n p r q vs (swLargeH T n o b run wk H) R (t + 7) w' ∧ Kp [p, r] w w' := by
  have hf := h.fit
  have hlt := h.lt
  have hS := hd_le (T := T) (n := n) b hb hf.2.1 hf.2.2.2
  have hS2 : hd T n b < H.length := by unfold hd; omega
  obtain ⟨x, hx⟩ : ∃ x, H.getD (hd T n b) 0 = x := ⟨_, rfl⟩
  have hx0 := h.word (hd T n b)
  rw [hx] at hx0
  obtain ⟨k, c', o', rf, sz, er, g, m, HTk, hways⟩ := take_any x hx0.1 hx0.2
  have hok : (er == 0) = decide (er = 0) := by by_cases h : er = 0 <;> simp [h]
  have HSt := Lib.hid (start_at (T := T) (n := n) b hb hf.2.1 hf.2.2.2)
  have HHd := Lib.hid (fun (wq : World) (kq : Kp [] w wq) => sw_head (o := o) (wk := wk) (h.on kq) (by omega) (hd T n b) hS2 x hx k c' o' rf sz er g m HTk _ hok)
  have HCl : swLargeH T n o b run wk H = if lkB o x then (if mkB x then H.set (hd T n b) (x - 16) else swBack T n wk ((H.set (hd T n b) (fw o)).set (3 + T + 0 + b) (Tb.wordE 5 0 run o)) b run) else H := by unfold swLargeH; rw [hx]
  have HOw : Hid (∀ (res : Bool) (wq : World), (decide (k = 2) && decide (o' = o)) = res → Calls Tryz.prog 116 #[swV T n p q o wk, .agg #[.int .u8 k, .int .u8 c', .bool g, .bool m, .int .u8 o', .int .u8 rf, .int .u8 sz]] wq fun e w' => e = .returned (.bool res) ∧ Kp [] wq w') := Lib.hid fun res wq hr => sw_own k c' o' rf sz g m wq res hr
  have HWr : Hid (∀ wq, Mw T 0 n p r q vs H R (t + 1) wq → Calls Tryz.prog 118 #[swV T n p q o wk, .int .i64 (hd T n b : Nat), .agg #[.int .u8 0, .int .u8 0, .bool false, .bool false, .int .u8 o, .int .u8 0, .int .u8 0]] wq fun e w' => e = .returned (.tuple #[]) ∧ Mw T 0 n p r q vs (H.set (hd T n b) (fw o)) R (t + 2) w' ∧ Kp [p, r] wq w') := Lib.hid fun wq hq => sw_write hq (by omega) _ hS2 _ rfl 0 0 o 0 0 false false (by omega) (by omega) (by omega) (by omega) (by omega) (fw_may o ho) _ rfl
  have HUn : Hid (k = 2 → er = 0 → m = true → ∀ wq, Mw T 0 n p r q vs H R (t + 1) wq → Calls Tryz.prog 117 #[swV T n p q o wk, .int .i64 (hd T n b : Nat), .agg #[.int .u8 k, .int .u8 c', .bool g, .bool m, .int .u8 o', .int .u8 rf, .int .u8 sz]] wq fun e w' => e = .returned (.tuple #[]) ∧ Mw T 0 n p r q vs (H.set (hd T n b) (x - 16)) R (t + 2) w' ∧ Kp [p, r] wq w') := Lib.hid fun hk he hm wq hq => by
    rcases hways with ⟨e0, -⟩ | ⟨-, htk, e1, e2, e3, e4, e5, e6, e7⟩
    · omega
    · obtain ⟨m1, m2⟩ := unmark_word hx0.1 htk (by omega) (by rw [← e7]; exact hm)
      rw [e1, e2, e3, e4, e5, e6]
      exact sw_unmark hq (by omega) _ hS2 _ rfl _ _ _ _ _ _ m (by omega) (by omega) (by omega) (by omega) (by omega) m1 _ m2
  have HSet := Lib.hid (fun (wq : World) (hq : Mw T 0 n p r q vs (H.set (hd T n b) (fw o)) R (t + 2) wq) => mw_set hq (by omega) b hb 5 0 run o (by omega) (by omega) (by omega) (by omega) (mayE5 ho hr1 hr3))
  have HBk : Hid (∀ wq, Mw T 0 n p r q vs ((H.set (hd T n b) (fw o)).set (3 + T + 0 + b) (Tb.wordE 5 0 run o)) R (t + 3) wq → Calls Tryz.prog 78 #[swV T n p q o wk, .int .i64 b, .agg #[.int .u8 5, .int .u8 0, .int .u8 run, .int .u8 o]] wq fun e w' => e = .returned (.tuple #[]) ∧ Mw T 0 n p r q vs (swBack T n wk ((H.set (hd T n b) (fw o)).set (3 + T + 0 + b) (Tb.wordE 5 0 run o)) b run) R (t + 7) w' ∧ Kp [p, r] wq w') := Lib.hid fun wq hq => sw_back hq (by omega) b 5 0 run o (by omega) (by omega) _ rfl
  have HOn : lkB o x = (decide (er = 0) && (decide (k = 2) && decide (o' = o))) ∧ (er ≠ 0 → k = 0) ∧ (er = 0 → mkB x = m) := by
    rcases hways with ⟨rfl, htk, e1, -⟩ | ⟨rfl, htk, e1, e2, e3, e4, e5, e6, e7⟩
    · exact ⟨by simp [lkB, htk], fun _ => e1, fun h => by omega⟩
    · exact ⟨by simp [lkB, htk, e1, e3], fun h => absurd rfl h, fun _ => e7.symm⟩
  have HLk : lkB o x = (decide (k = 2) && decide (o' = o)) := by
    rw [HOn.1]
    by_cases he : er = 0
    · simp [he]
    · simp [he, HOn.2.1 he]
  have HEr : Hid (lkB o x = true → er = 0) := Lib.hid fun h => by rw [HOn.1] at h; simp at h; exact h.1
  have HMm : Hid (er = 0 → mkB x = m) := Lib.hid HOn.2.2
  have HM : Hid (∀ wq, Kp [] w wq → Mw T 0 n p r q vs H R t wq) := Lib.hid fun wq k => h.on k
  have kb := swW_kp w T n p q o wk
  have rb := swW_row w T n p q o wk
  obtain ⟨w1, hw1⟩ : ∃ w1, w1 = swW w T n p q o wk := ⟨_, rfl⟩
  rw [← hw1] at kb rb
  have hz1 : w1.heap.size = w.heap.size + 1 := by rw [hw1]; exact World.size_alloc _ _
  obtain ⟨w2, hw2⟩ : ∃ w2, w2 = w1.alloc (.cells #[.int .u8 2, .int .u8 0, .int .u8 run, .int .u8 o] 110) := ⟨_, rfl⟩
  have k2 : Kp [] w1 w2 := by rw [hw2]; exact (Kp.refl _ _).alloc _
  have r2 := k2.row (by simp) rb
  have s2 : w2.heap[w.heap.size + 1]? = some (.cells #[.int .u8 2, .int .u8 0, .int .u8 run, .int .u8 o] 110 (0, 0)) := by rw [hw2, ← hz1]; exact heap_alloc_new _ _
  have H2 := Lib.hid (And.intro (kb.trans k2) (And.intro r2 (And.intro s2 hlt)))
  unfold swC at H2
  unfold swW swC at hw1
  rw [hw1] at hw2
  generalize hd T n b = S at *
  generalize swLargeH T n o b run wk H = fin at *
  clear h ht ho hb hr1 hr3 hf hlt hS hS2 hx hx0 HTk hways HOn kb rb k2 r2 s2 hw1 hz1 w1 hok
  go_enter Tryz.func77, Tryz.ntmps77
  go_upto_region 1 with (fail)
  rw [← hw2]
  clear hw2
  have c0 := (cell_of_row H2.out.2.1 0).trans (show _ = some (.iface 31 (.pointer (some ⟨p, 0, none⟩))) from rfl)
  have c1 := (cell_of_row H2.out.2.1 1).trans (show _ = some (.int .i64 T) from rfl)
  have c2 := (cell_of_row H2.out.2.1 2).trans (show _ = some (.int .i64 ((0 : Nat) : Int)) from rfl)
  have c3 := (cell_of_row H2.out.2.1 3).trans (show _ = some (.int .i64 n) from rfl)
  have c4 := (cell_of_row H2.out.2.1 4).trans (show _ = some (.int .u8 o) from rfl)
  have c5 := (cell_of_row H2.out.2.1 5).trans (show _ = some (.pointer (some ⟨q, 0, none⟩)) from rfl)
  have c6 := (cell_of_row H2.out.2.1 6).trans (show _ = some (.bool wk) from rfl)
  go_wp2_with fail
  refine (HSt.out _).mono ?_
  rintro e w3 ⟨rfl, k3⟩
  have H3 := Lib.hid (And.intro (H2.out.1.trans k3) (And.intro (k3.row (by simp) H2.out.2.1) (And.intro (k3.row (by simp) H2.out.2.2.1) H2.out.2.2.2)))
  clear k3 c0 c1 c2 c3 c4 c5 c6 HSt
  have c0 := (cell_of_row H3.out.2.1 0).trans (show _ = some (.iface 31 (.pointer (some ⟨p, 0, none⟩))) from rfl)
  have c1 := (cell_of_row H3.out.2.1 1).trans (show _ = some (.int .i64 T) from rfl)
  have c2 := (cell_of_row H3.out.2.1 2).trans (show _ = some (.int .i64 ((0 : Nat) : Int)) from rfl)
  have c3 := (cell_of_row H3.out.2.1 3).trans (show _ = some (.int .i64 n) from rfl)
  have c4 := (cell_of_row H3.out.2.1 4).trans (show _ = some (.int .u8 o) from rfl)
  have c5 := (cell_of_row H3.out.2.1 5).trans (show _ = some (.pointer (some ⟨q, 0, none⟩)) from rfl)
  have c6 := (cell_of_row H3.out.2.1 6).trans (show _ = some (.bool wk) from rfl)
  go_wp2_with fail
  refine (HHd.out _ H3.out.1).mono ?_
  rintro e w4 ⟨rfl, h4, k4⟩
  have n0 : w.heap.size ∉ [p, r] := by have := H3.out.2.2.2; simp; omega
  have n1 : w.heap.size + 1 ∉ [p, r] := by have := H3.out.2.2.2; simp; omega
  have kA : Kp [] w4 (w4.alloc (.cells #[.int .u8 k, .int .u8 c', .bool g, .bool m, .int .u8 o', .int .u8 rf, .int .u8 sz] 59)) := (Kp.refl _ _).alloc _
  have r5 := kA.row (by simp) (k4.row n0 H3.out.2.1)
  have s5 := kA.row (by simp) (k4.row n1 H3.out.2.2.1)
  have z5 := heap_alloc_new w4 (.cells #[.int .u8 k, .int .u8 c', .bool g, .bool m, .int .u8 o', .int .u8 rf, .int .u8 sz] 59)
  have m5 := h4.on kA
  have K5 := ((H3.out.1.mono (by simp)).trans k4).trans (kA.mono (by simp))
  have hz : w.heap.size < w4.heap.size := lt_of_block (k4.row n0 H3.out.2.1)
  obtain ⟨hb, hhb⟩ : ∃ hb, hb = w4.heap.size := ⟨_, rfl⟩
  obtain ⟨w5, hw5⟩ : ∃ w5, w5 = w4.alloc (.cells #[.int .u8 k, .int .u8 c', .bool g, .bool m, .int .u8 o', .int .u8 rf, .int .u8 sz] 59) := ⟨_, rfl⟩
  rw [← hw5] at r5 s5 z5 m5 K5
  rw [← hhb] at z5 hz
  have HC : Hid (∀ wx, Kp [p, r] w5 wx → wx.cell? ⟨w.heap.size, 0, none⟩ = some (.iface 31 (.pointer (some ⟨p, 0, none⟩))) ∧ wx.cell? ⟨w.heap.size, 1, none⟩ = some (.int .i64 T) ∧ wx.cell? ⟨w.heap.size, 2, none⟩ = some (.int .i64 ((0 : Nat) : Int)) ∧ wx.cell? ⟨w.heap.size, 3, none⟩ = some (.int .i64 n) ∧ wx.cell? ⟨w.heap.size, 4, none⟩ = some (.int .u8 o) ∧ wx.cell? ⟨w.heap.size, 5, none⟩ = some (.pointer (some ⟨q, 0, none⟩)) ∧ wx.cell? ⟨w.heap.size, 6, none⟩ = some (.bool wk) ∧ wx.cell? ⟨w.heap.size + 1, 0, none⟩ = some (.int .u8 2) ∧ wx.cell? ⟨w.heap.size + 1, 1, none⟩ = some (.int .u8 0) ∧ wx.cell? ⟨w.heap.size + 1, 2, none⟩ = some (.int .u8 run) ∧ wx.cell? ⟨w.heap.size + 1, 3, none⟩ = some (.int .u8 o) ∧ wx.cell? ⟨hb, 0, none⟩ = some (.int .u8 k) ∧ wx.cell? ⟨hb, 1, none⟩ = some (.int .u8 c') ∧ wx.cell? ⟨hb, 2, none⟩ = some (.bool g) ∧ wx.cell? ⟨hb, 3, none⟩ = some (.bool m) ∧ wx.cell? ⟨hb, 4, none⟩ = some (.int .u8 o') ∧ wx.cell? ⟨hb, 5, none⟩ = some (.int .u8 rf) ∧ wx.cell? ⟨hb, 6, none⟩ = some (.int .u8 sz)) := Lib.hid fun wx k' => by
    have n2 : hb ∉ [p, r] := by have := H3.out.2.2.2; simp; omega
    have r6 := k'.row n0 r5
    have s6 := k'.row n1 s5
    have z6 := k'.row n2 z5
    exact ⟨(cell_of_row r6 0).trans rfl, (cell_of_row r6 1).trans rfl, (cell_of_row r6 2).trans rfl, (cell_of_row r6 3).trans rfl, (cell_of_row r6 4).trans rfl, (cell_of_row r6 5).trans rfl, (cell_of_row r6 6).trans rfl, (cell_of_row s6 0).trans rfl, (cell_of_row s6 1).trans rfl, (cell_of_row s6 2).trans rfl, (cell_of_row s6 3).trans rfl, (cell_of_row z6 0).trans rfl, (cell_of_row z6 1).trans rfl, (cell_of_row z6 2).trans rfl, (cell_of_row z6 3).trans rfl, (cell_of_row z6 4).trans rfl, (cell_of_row z6 5).trans rfl, (cell_of_row z6 6).trans rfl⟩
  have HRw : Hid (w5.heap[w.heap.size + 1]? = some (.cells #[.int .u8 2, .int .u8 0, .int .u8 run, .int .u8 o] 110 (0, 0))) := Lib.hid s5
  have H5 := Lib.hid (And.intro m5 (And.intro K5 (And.intro n0 n1)))
  have HSz : Hid (w.heap.size + 1 < w5.heap.size ∧ w.heap.size + 1 ≠ hb) := Lib.hid ⟨lt_of_block s5, by
    intro e
    rw [e, z5] at s5
    simp at s5⟩
  clear h4 k4 kA r5 s5 z5 m5 K5 hz n0 n1 c0 c1 c2 c3 c4 c5 c6 HHd
  go_upto_region 3 with (fail)
  rw [← hhb, ← hw5]
  clear hhb hw5
  obtain ⟨c0, c1, c2, c3, c4, c5, c6, e0, e1, e2, e3, d0, d1, d2, d3, d4, d5, d6⟩ := HC.out w5 (Kp.refl _ _)
  cases hw : (decide (k = 2) && decide (o' = o)) with
  | false =>
    have HF : Hid (fin = H) := Lib.hid (by rw [HCl, HLk, hw]; rfl)
    have HO := Lib.hid (fun wq => HOw.out false wq hw)
    clear HCl HLk hw
    go_wp2_with fail
    refine (HO.out _).mono ?_
    rintro e w6 ⟨rfl, k6⟩
    have H6 := Lib.hid k6
    clear k6 c0 c1 c2 c3 c4 c5 c6 e0 e1 e2 e3 d0 d1 d2 d3 d4 d5 d6
    go_wp2_with fail
    exact bodyPost_ret (results_none Tryz.results77 _ _ _) rfl ⟨rfl, by rw [HF.out]; exact (H5.out.1.on H6.out).more (by omega), H5.out.2.1.trans (H6.out.mono (by simp))⟩
  | true =>
    have hk2 : k = 2 := by simp at hw; exact hw.1
    have he0 := HEr.out (by rw [HLk]; exact hw)
    have HO := Lib.hid (fun wq => HOw.out true wq hw)
    cases m with
    | true =>
      have HF : Hid (fin = H.set S (x - 16)) := Lib.hid (by rw [HCl, HLk, hw, if_pos rfl, HMm.out he0, if_pos rfl])
      have HU := Lib.hid (HUn.out hk2 he0 rfl)
      clear HCl HLk hw hk2 he0 HUn HMm HEr
      go_wp2_with fail
      refine (HO.out _).mono ?_
      rintro e w6 ⟨rfl, k6⟩
      have H6 := Lib.hid k6
      obtain ⟨c0, c1, c2, c3, c4, c5, c6, e0, e1, e2, e3, d0, d1, d2, d3, d4, d5, d6⟩ := HC.out w6 (k6.mono (by simp))
      clear k6
      go_wp2_with fail
      refine (HU.out _ (H5.out.1.on H6.out)).mono ?_
      rintro e w7 ⟨rfl, h7, k7⟩
      have H7 := Lib.hid (And.intro h7 ((H5.out.2.1.trans (H6.out.mono (by simp))).trans k7))
      clear h7 k7 c0 c1 c2 c3 c4 c5 c6 e0 e1 e2 e3 d0 d1 d2 d3 d4 d5 d6
      go_wp2_with fail
      exact bodyPost_ret (results_none Tryz.results77 _ _ _) rfl ⟨rfl, by rw [HF.out]; exact H7.out.1.more (by omega), H7.out.2⟩
    | false =>
      have HF : Hid (swBack T n wk ((H.set S (fw o)).set (3 + T + 0 + b) (Tb.wordE 5 0 run o)) b run = fin) := Lib.hid (by rw [HCl, HLk, hw, if_pos rfl, HMm.out he0, if_neg (by simp)])
      clear HCl HLk hw hk2 he0 HUn HMm HEr
      go_wp2_with fail
      refine (HO.out _).mono ?_
      rintro e w6 ⟨rfl, k6⟩
      have H6 := Lib.hid k6
      obtain ⟨c0, c1, c2, c3, c4, c5, c6, e0, e1, e2, e3, d0, d1, d2, d3, d4, d5, d6⟩ := HC.out w6 (k6.mono (by simp))
      clear k6
      go_wp2_with fail
      refine (HWr.out _ (H5.out.1.on H6.out)).mono ?_
      rintro e w7 ⟨rfl, h7, k7⟩
      have K57 := (H6.out.mono (by simp)).trans k7
      have H7 := Lib.hid (And.intro h7 (And.intro (H5.out.2.1.trans K57) (K57.row H5.out.2.2.2 HRw.out)))
      have HK57 := Lib.hid K57
      obtain ⟨c0, c1, c2, c3, c4, c5, c6, e0, e1, e2, e3, d0, d1, d2, d3, d4, d5, d6⟩ := HC.out w7 K57
      have fe := free_of_row H7.out.2.2 0
      clear h7 k7 K57
      have rS := heap_setCell_same w7 (w.heap.size + 1) 0 _ _ (.int .u8 5) H7.out.2.2
      have kS : Kp [w.heap.size + 1] w7 (w7.setCell ⟨w.heap.size + 1, 0, none⟩ (.int .u8 5)) := (Kp.refl _ _).setCell (.inl (by simp)) _
      have hcs : ∀ {i : Nat} {v : Value}, w7.cell? ⟨w.heap.size, i, none⟩ = some v → (w7.setCell ⟨w.heap.size + 1, 0, none⟩ (.int .u8 5)).cell? ⟨w.heap.size, i, none⟩ = some v := fun hv => kp_cell kS (by simp) hv
      have g0 := hcs c0
      have g1 := hcs c1
      have g2 := hcs c2
      have g3 := hcs c3
      have g4 := hcs c4
      have g5 := hcs c5
      have g6 := hcs c6
      have m8 : Mw T 0 n p r q vs (H.set S (fw o)) R (t + 2) (w7.setCell ⟨w.heap.size + 1, 0, none⟩ (.int .u8 5)) := by
        have hap := H7.out.1.apart H7.out.2.2 (by decide) (by decide) (by decide) (by decide)
        obtain ⟨t0, ht0, hh⟩ := H7.out.1.hw
        have hg := H7.out.1.gn
        have hgn : 0 ∉ [w.heap.size + 1] := fun e => by
          have e' := List.mem_singleton.1 e
          have c := H7.out.1.tab.c0
          first
            | omega
            | (rw [e', cell_of_row H7.out.2.2] at c
               simp at c)
        refine ⟨⟨t0, ht0, hh.keep kS (by simp; exact fun e => hap.1 e.symm) (by simp; exact fun e => hap.2.1 e.symm)⟩, H7.out.1.ls.keep kS (by simp; exact fun e => hap.2.2.1 e.symm) (fun g hg e => by
          simp only [List.mem_singleton] at e
          subst e
          exact hap.2.2.2 hg), H7.out.1.lk, H7.out.1.sm, tab_keep H7.out.1.tab kS hgn, hg⟩
      have K8 : Kp [p, r] w (w7.setCell ⟨w.heap.size + 1, 0, none⟩ (.int .u8 5)) := kp_new_set H7.out.2.1 kS (by omega)
      obtain ⟨w8, hw8⟩ : ∃ w8, w8 = w7.setCell ⟨w.heap.size + 1, 0, none⟩ (.int .u8 5) := ⟨_, rfl⟩
      rw [← hw8] at rS g0 g1 g2 g3 g4 g5 g6 m8 K8
      have H8 := Lib.hid (And.intro m8 (And.intro K8 rS))
      clear kS hcs m8 K8 rS
      go_upto_region 8 with (fail)
      rw [← hw8]
      clear c0 c1 c2 c3 c4 c5 c6 e0 e1 e2 e3 d0 d1 d2 d3 d4 d5 d6 fe hw8
      have e0 := (cell_of_row H8.out.2.2 0).trans (show _ = some (.int .u8 5) from rfl)
      have e1 := (cell_of_row H8.out.2.2 1).trans (show _ = some (.int .u8 0) from rfl)
      have e2 := (cell_of_row H8.out.2.2 2).trans (show _ = some (.int .u8 run) from rfl)
      have e3 := (cell_of_row H8.out.2.2 3).trans (show _ = some (.int .u8 o) from rfl)
      have HK9 : Hid (∀ wx, Kp [p, r] w8 wx → wx.cell? ⟨w.heap.size, 0, none⟩ = some (.iface 31 (.pointer (some ⟨p, 0, none⟩))) ∧ wx.cell? ⟨w.heap.size, 1, none⟩ = some (.int .i64 T) ∧ wx.cell? ⟨w.heap.size, 2, none⟩ = some (.int .i64 ((0 : Nat) : Int)) ∧ wx.cell? ⟨w.heap.size, 3, none⟩ = some (.int .i64 n) ∧ wx.cell? ⟨w.heap.size, 4, none⟩ = some (.int .u8 o) ∧ wx.cell? ⟨w.heap.size, 5, none⟩ = some (.pointer (some ⟨q, 0, none⟩)) ∧ wx.cell? ⟨w.heap.size, 6, none⟩ = some (.bool wk) ∧ wx.cell? ⟨w.heap.size + 1, 0, none⟩ = some (.int .u8 5) ∧ wx.cell? ⟨w.heap.size + 1, 1, none⟩ = some (.int .u8 0) ∧ wx.cell? ⟨w.heap.size + 1, 2, none⟩ = some (.int .u8 run) ∧ wx.cell? ⟨w.heap.size + 1, 3, none⟩ = some (.int .u8 o)) := Lib.hid fun wx k' => ⟨kp_cell k' H5.out.2.2.1 g0, kp_cell k' H5.out.2.2.1 g1, kp_cell k' H5.out.2.2.1 g2, kp_cell k' H5.out.2.2.1 g3, kp_cell k' H5.out.2.2.1 g4, kp_cell k' H5.out.2.2.1 g5, kp_cell k' H5.out.2.2.1 g6, kp_cell k' H5.out.2.2.2 e0, kp_cell k' H5.out.2.2.2 e1, kp_cell k' H5.out.2.2.2 e2, kp_cell k' H5.out.2.2.2 e3⟩
      go_wp2_with fail
      refine (HSet.out _ H8.out.1).mono ?_
      rintro e w9 ⟨rfl, h9, k9⟩
      have H9 := Lib.hid (And.intro h9 (H8.out.2.1.trans k9))
      clear g0 g1 g2 g3 g4 g5 g6 e0 e1 e2 e3
      obtain ⟨g0, g1, g2, g3, g4, g5, g6, e0, e1, e2, e3⟩ := HK9.out w9 k9
      clear h9 k9
      go_wp2_with fail
      refine (HBk.out _ H9.out.1).mono ?_
      rintro e w10 ⟨rfl, h10, k10⟩
      have H10 := Lib.hid (And.intro h10 (H9.out.2.trans k10))
      clear h10 k10 g0 g1 g2 g3 g4 g5 g6 e0 e1 e2 e3
      go_wp2_with fail
      go_end0
      exact ⟨rfl, by rw [← HF.out]; exact H10.out.1, H10.out.2⟩
end
end Go.Proofs.YticbnckikkdknaaGreatDoor

namespace Go.Proofs.YticbnckikkdknaaGreatDoor
set_option linter.unusedVariables false
set_option linter.unusedSimpArgs false
set_option maxRecDepth 100000
open Go.RowKit

section
variable {T n p r q t o : Nat} {wk : Bool} {vs : Nat → Value} {H : List Int} {R : Nat → List Int} {w : World}
/-- What a sweeper at work over cells holds. -/
def Swk (T n p r q o : Nat) (wk : Bool) (t c b lb : Nat) (vs : Nat → Value) (H : List Int) (R : Nat → List Int) (w : World) (i : Nat) (wr : World) : Prop :=
  ∃ vs', Mw T 0 n p r q vs' (swCells T n o c b (H, R) i).1.1 (swCells T n o c b (H, R) i).1.2 (t + 2 * i) wr ∧ Mk p r q vs vs' w wr ∧ wr.heap[w.heap.size]? = some (.cells (swC T n p q o wk) 106 (0, 0)) ∧ wr.heap[lb]? = some (.cells #[.bool (swCells T n o c b (H, R) i).2] 4 (0, 0))
set_option maxHeartbeats 16000000 in
/-- A Small block is swept. -/
theorem sw_small (h : Mw T 0 n p r q vs H R t w) (ht : t ≤ 500000) (ho : o < 64) (b : Nat) (hb : b < n) (c : Nat) (hc : c < 4) :
    Calls Tryz.prog 76 #[swV T n p q o wk, .int .i64 b, .agg #[.int .u8 1, .int .u8 c, .int .u8 0, .int .u8 o]] w fun e w' => e = .returned (.tuple #[]) ∧ ∃ vs', Mw T 0 n p r q vs' (swSmall T n o c b wk (H, R)).1 (swSmall T n o c b wk (H, R)).2 (t + 37) w' ∧ Mk p r q vs vs' w w' := by
  have hf := h.fit
  have hlt := h.lt
  have hm : (Cl.clC c).toNat ≤ 16 ∧ 1 ≤ (Cl.clC c).toNat := by rcases Li.four hc with rfl | rfl | rfl | rfl <;> decide
  have hcl : Cl.clC c = ((Cl.clC c).toNat : Nat) := by rcases Li.four hc with rfl | rfl | rfl | rfl <;> decide
  have hcv : IntKind.i64.wrap (c : Int) = c := IntWalk.i64_in _ (by omega)
  have HCls := Lib.hid (fun w (tb : Cl.Tab w) => Cl.cells_is w tb c _ rfl)
  have HWd := Lib.hid (fun w (tb : Cl.Tab w) => Cl.words_is w tb c _ rfl)
  have HSt := Lib.hid (start_at (T := T) (n := n) b hb hf.2.1 hf.2.2.2)
  have HAl := Lib.hid sw_all
  have hS := hd_le (T := T) (n := n) b hb hf.2.1 hf.2.2.2
  have HMu : Hid (∀ i, i < (Cl.clC c).toNat → IntKind.i64.wrap ((i : Int) * Cl.wdC c) = (i : Int) * Cl.wdC c ∧ IntKind.i64.wrap ((hd T n b : Nat) + (i : Int) * Cl.wdC c) = (hd T n b : Nat) + (i : Int) * Cl.wdC c) := Lib.hid fun i hi => by
    have := wd_mul c i hc hi
    exact ⟨IntWalk.i64_in _ (by omega), IntWalk.i64_in _ (by omega)⟩
  have HCe : Hid (∀ (i : Nat) (s : Hs) (vq : Nat → Value) (tq : Nat) (wq : World), i < (Cl.clC c).toNat → tq ≤ 600000 → s.1.length = H.length → Mw T 0 n p r q vq s.1 s.2 tq wq → Calls Tryz.prog 113 #[swV T n p q o wk, .int .i64 c, .int .i64 ((hd T n b : Nat) + (i : Int) * Cl.wdC c)] wq fun e w' => e = .returned (.int .u8 (swCell o c (pl T 0 n c b i) s).2) ∧ ∃ vs', Mw T 0 n p r q vs' (swCell o c (pl T 0 n c b i) s).1.1 (swCell o c (pl T 0 n c b i) s).1.2 (tq + 2) w' ∧ Mk p r q vq vs' wq w') := Lib.hid fun i s vq tq wq hi htq hl hq => by
    have hp := pl_fit (T := T) (G := 0) hc hb hi hf.1
    have he := pl_is (T := T) (G := 0) (n := n) c b i hc
    rw [show (hd T n b : Nat) = 3 + T + 0 + n + 32 * b from rfl, he]
    exact sw_cell hq (by omega) ho c hc _ hp.1 (by rw [hl]; exact hp.2.2) (by rw [hl]; exact hp.2.1)
  have HLen : Hid (∀ i, (swCells T n o c b (H, R) i).1.1.length = H.length) := Lib.hid fun i => cells_len i
  have HSu : Hid (∀ i, swCells T n o c b (H, R) (i + 1) = ((swCell o c (pl T 0 n c b i) (swCells T n o c b (H, R) i).1).1, (swCells T n o c b (H, R) i).2 && decide ((swCell o c (pl T 0 n c b i) (swCells T n o c b (H, R) i).1).2 = 1))) := Lib.hid fun i => rfl
  have HEm : Hid (∀ (s : Hs) (vq : Nat → Value) (tq : Nat) (wq : World), tq ≤ 600000 → Mw T 0 n p r q vq s.1 s.2 tq wq → Calls Tryz.prog 114 #[swV T n p q o wk, .int .i64 b] wq fun e w' => e = .returned (.tuple #[]) ∧ ∃ vs', Mw T 0 n p r q vs' (swEmpty T n o b wk s).1 (swEmpty T n o b wk s).2 (tq + 5) w' ∧ Mk p r q vq vs' wq w') := Lib.hid fun s vq tq wq htq hq => sw_empty hq htq ho b hb
  have HFi : swSmall T n o c b wk (H, R) = if (swCells T n o c b (H, R) (Cl.clC c).toNat).2 then swEmpty T n o b wk (swCells T n o c b (H, R) (Cl.clC c).toNat).1 else (swCells T n o c b (H, R) (Cl.clC c).toNat).1 := rfl
  have kb := swW_kp w T n p q o wk
  have rb := swW_row w T n p q o wk
  have hz1 : (swW w T n p q o wk).heap.size = w.heap.size + 1 := World.size_alloc _ _
  obtain ⟨w2, hw2⟩ : ∃ w2, w2 = (swW w T n p q o wk).alloc (.cells #[.int .u8 1, .int .u8 c, .int .u8 0, .int .u8 o] 110) := ⟨_, rfl⟩
  have k2 : Kp [] (swW w T n p q o wk) w2 := by rw [hw2]; exact (Kp.refl _ _).alloc _
  have r2 := k2.row (by simp) rb
  have s2 : w2.heap[w.heap.size + 1]? = some (.cells #[.int .u8 1, .int .u8 c, .int .u8 0, .int .u8 o] 110 (0, 0)) := by rw [hw2, ← hz1]; exact heap_alloc_new _ _
  have H2 : Hid (Mw T 0 n p r q vs H R t w2 ∧ Kp [] w w2 ∧ w2.heap[w.heap.size]? = some (.cells (swC T n p q o wk) 106 (0, 0))) := Lib.hid ⟨h.on (kb.trans k2), kb.trans k2, r2⟩
  have e1 := (cell_of_row s2 1).trans (show _ = some (.int .u8 c) from rfl)
  have HLt := Lib.hid hlt
  have HTt := Lib.hid ht
  unfold swW swC at hw2
  rw [hcl] at HCls
  generalize hmm : (Cl.clC c).toNat = m at *
  generalize Cl.wdC c = d at *
  generalize swSmall T n o c b wk (H, R) = fin at *
  generalize hd T n b = S at *
  obtain ⟨hm1, hm2⟩ := hm
  have HM2 := Lib.hid hm2
  clear h ht ho hb hc hf hlt hcl hS kb rb hz1 k2 r2 s2 hmm hm2
  go_enter Tryz.func76, Tryz.ntmps76
  go_upto_region 1 with (fail)
  rw [← hw2]
  clear hw2
  go_wp2_with fail
  refine (HAl.out _).mono ?_
  rintro e w3 ⟨⟨lb, rfl, hlb, hlz⟩, k3⟩
  have HB : Hid (Swk T n p r q o wk t c b lb vs H R w 0 w3) := Lib.hid ⟨vs, H2.out.1.on k3, Mk.of_kp (H2.out.2.1.trans k3) (by simp), k3.row (by simp) H2.out.2.2, hlb⟩
  have HLb : Hid (w.heap.size < lb) := Lib.hid (by have := lt_of_block H2.out.2.2; omega)
  have HT3 := Lib.hid ((H2.out.1.on k3).tab)
  clear hlb hlz k3 e1 H2
  go_wp2_with fail
  refine (HCls.out _ HT3.out).mono ?_
  rintro e w4 ⟨rfl, rfl⟩
  go_wp2_with fail
  go_loopg [8, 16] m (fun gg v8 v16 wr => ∃ (i : Nat) (fl : Bool), i + gg = m ∧ v16 = .int .i64 i ∧ v8 = .bool fl ∧ Hid (Swk T n p r q o wk t c b lb vs H R w i wr ∧ fl = (decide (0 < i) && (swCells T n o c b (H, R) i).2)))
  case atStart => exact ⟨0, false, by omega, rfl, rfl, Lib.hid ⟨HB.out, rfl⟩⟩
  case round =>
    clear HB HT3
    obtain ⟨i, fl, hi, rfl, rfl, HR⟩ := hrel
    obtain ⟨⟨vs1, hM, hK, hrow, hlb⟩, hfl⟩ := HR.out
    by_cases hlt2 : i < m
    · have hS1 := HSu.out i
      have hL1 := HLen.out i
      generalize swCells T n o c b (H, R) i = s at hM hlb hfl hS1 hL1
      obtain ⟨mu1, mu2⟩ := HMu.out i hlt2
      have HCe2 := Lib.hid (fun (wq : World) (kq : Kp [] wr wq) => HCe.out i s.1 vs1 (t + 2 * i) wq hlt2 (by have := HTt.out; omega) hL1 (hM.on kq))
      generalize hky : (swCell o c (pl T 0 n c b i) s.1).2 = ky at *
      generalize hsy : (swCell o c (pl T 0 n c b i) s.1).1 = sy at *
      obtain ⟨bo, hbo⟩ : ∃ bo, bo = (s.2 && decide (ky = 1)) := ⟨_, rfl⟩
      have HLs := Lib.hid (fun (wq : World) (hq : wq.heap[lb]? = some (.cells #[.bool s.2] 4 (0, 0))) => sw_listed ky wq lb s.2 hq bo hbo.symm)
      have HM := Lib.hid hM
      have HK := Lib.hid hK
      have HRow := Lib.hid hrow
      have HLbr := Lib.hid hlb
      have HTb := Lib.hid hM.tab
      have HEq : Hid (swCells T n o c b (H, R) (i + 1) = (sy, bo)) := Lib.hid (by rw [hS1, hbo])
      have HC : Hid (∀ wx : World, wx.heap[w.heap.size]? = some (.cells (swC T n p q o wk) 106 (0, 0)) → wx.cell? ⟨w.heap.size, 0, none⟩ = some (.iface 31 (.pointer (some ⟨p, 0, none⟩))) ∧ wx.cell? ⟨w.heap.size, 1, none⟩ = some (.int .i64 T) ∧ wx.cell? ⟨w.heap.size, 2, none⟩ = some (.int .i64 ((0 : Nat) : Int)) ∧ wx.cell? ⟨w.heap.size, 3, none⟩ = some (.int .i64 n) ∧ wx.cell? ⟨w.heap.size, 4, none⟩ = some (.int .u8 o) ∧ wx.cell? ⟨w.heap.size, 5, none⟩ = some (.pointer (some ⟨q, 0, none⟩)) ∧ wx.cell? ⟨w.heap.size, 6, none⟩ = some (.bool wk)) := Lib.hid fun wx r4 => ⟨(cell_of_row r4 0).trans rfl, (cell_of_row r4 1).trans rfl, (cell_of_row r4 2).trans rfl, (cell_of_row r4 3).trans rfl, (cell_of_row r4 4).trans rfl, (cell_of_row r4 5).trans rfl, (cell_of_row r4 6).trans rfl⟩
      obtain ⟨c0, c1, c2, c3, c4, c5, c6⟩ := HC.out wr hrow
      have HC0 : Hid (∀ wx, Kp [] wr wx → wx.cell? ⟨w.heap.size, 0, none⟩ = some (.iface 31 (.pointer (some ⟨p, 0, none⟩))) ∧ wx.cell? ⟨w.heap.size, 1, none⟩ = some (.int .i64 T) ∧ wx.cell? ⟨w.heap.size, 2, none⟩ = some (.int .i64 ((0 : Nat) : Int)) ∧ wx.cell? ⟨w.heap.size, 3, none⟩ = some (.int .i64 n) ∧ wx.cell? ⟨w.heap.size, 4, none⟩ = some (.int .u8 o) ∧ wx.cell? ⟨w.heap.size, 5, none⟩ = some (.pointer (some ⟨q, 0, none⟩)) ∧ wx.cell? ⟨w.heap.size, 6, none⟩ = some (.bool wk)) := Lib.hid fun wx kx => HC.out wx (kx.row (by simp) HRow.out)
      clear hS1 hL1 hM hK hrow hlb hfl hky hsy hbo HR
      go_wp2_with fail
      go_region_held3 (fun wx => wx.cell? ⟨w.heap.size, 0, none⟩ = some (.iface 31 (.pointer (some ⟨p, 0, none⟩))) ∧ wx.cell? ⟨w.heap.size, 1, none⟩ = some (.int .i64 T) ∧ wx.cell? ⟨w.heap.size, 2, none⟩ = some (.int .i64 ((0 : Nat) : Int)) ∧ wx.cell? ⟨w.heap.size, 3, none⟩ = some (.int .i64 n) ∧ wx.cell? ⟨w.heap.size, 4, none⟩ = some (.int .u8 o) ∧ wx.cell? ⟨w.heap.size, 5, none⟩ = some (.pointer (some ⟨q, 0, none⟩)) ∧ wx.cell? ⟨w.heap.size, 6, none⟩ = some (.bool wk))
        (first
          | with_reducible assumption
          | (refine HC.out _ ?_
             first
               | with_reducible first
                | exact R9.out
                | exact R8.out)
          | (refine HC.out _ ?_
             first
               | exact ((Kp.refl [] _).drew).row (by simp) R9.out
               | exact ((Kp.refl [] _).drew).row (by simp) R8.out)
          | (refine HC0.out _ ?_
             repeat (first
               | with_reducible first
                | exact Kp.refl _ _
                | exact K6.out
               | with_reducible refine Kp.drew ?_)))
        (first
          | (go_at_call 70
             refine (HSt.out _).mono ?_
             rintro e w6 ⟨rfl, k6⟩
             have K6 : Hid (Kp [] wr w6) := Lib.hid (by
               refine Kp.trans ?_ k6
               repeat (first | with_reducible exact Kp.refl _ _ | with_reducible refine Kp.drew ?_))
             clear k6)
          | (go_at_call 107
             refine Calls.mono (HWd.out _ ?htb) ?_
             case htb =>
               refine tab_keep HTb.out (S := []) ?_ (by simp)
               repeat (first | with_reducible exact Kp.refl _ _ | with_reducible exact K6.out | with_reducible refine Kp.drew ?_)
             rintro e w7 ⟨rfl, rfl⟩)
          | (go_at_call 113
             refine Calls.mono (HCe2.out _ ?hk) ?_
             case hk => repeat (first | with_reducible exact Kp.refl _ _ | with_reducible exact K6.out | with_reducible refine Kp.drew ?_)
             rintro e w8 ⟨rfl, vs8, h8, k8⟩
             have R8 : Hid (w8.heap[w.heap.size]? = some (.cells (swC T n p q o wk) 106 (0, 0))) := Lib.hid (by
               refine (HM.out.on ?_).row k8 (Kp.row ?_ (S := []) (by simp) HRow.out) (by decide) (by decide) (by decide) (by decide)
               all_goals repeat (first | with_reducible exact Kp.refl _ _ | with_reducible exact K6.out | with_reducible refine Kp.drew ?_))
             have L8 : Hid (w8.heap[lb]? = some (.cells #[.bool s.2] 4 (0, 0))) := Lib.hid (by
               refine (HM.out.on ?_).row k8 (Kp.row ?_ (S := []) (by simp) HLbr.out) (by decide) (by decide) (by decide) (by decide)
               all_goals repeat (first | with_reducible exact Kp.refl _ _ | with_reducible exact K6.out | with_reducible refine Kp.drew ?_))
             have M8 : Hid (Mk p r q vs vs8 w w8) := Lib.hid (by
               refine (HK.out.trans (Mk.of_kp (S := []) ?_ (by simp))).trans k8
               repeat (first | with_reducible exact Kp.refl _ _ | with_reducible exact K6.out | with_reducible refine Kp.drew ?_))
             have G8 := Lib.hid h8
             clear h8 k8)
          | (go_at_call 143
             refine Calls.mono (HLs.out _ ?hl) ?_
             case hl => first | exact L8.out | exact ((Kp.refl [] _).drew).row (by simp) L8.out
             rintro e w9 ⟨rfl, l9, k9⟩
             have K9 : Hid (Kp [lb] w8 w9) := Lib.hid (by
               refine Kp.trans (Kp.mono (S := []) ?_ (by simp)) k9
               repeat (first | with_reducible exact Kp.refl _ _ | with_reducible refine Kp.drew ?_))
             have R9 : Hid (w9.heap[w.heap.size]? = some (.cells (swC T n p q o wk) 106 (0, 0))) := Lib.hid (K9.out.row (by have := HLb.out; simp; omega) R8.out)
             have L9 := Lib.hid l9
             clear l9 k9))
      all_goals
        rename_i hHeld
        clear hHeld
      all_goals
        have F9 : Hid (Swk T n p r q o wk t c b lb vs H R w (i + 1) w9 ∧ bo = (decide (0 < i + 1) && (swCells T n o c b (H, R) (i + 1)).2)) := by
          refine Lib.hid ⟨?_, by rw [HEq.out]; simp⟩
          unfold Swk
          rw [HEq.out]
          have hapl : lb ≠ p ∧ lb ≠ r ∧ lb ≠ q ∧ ¬ Li.Owns vs8 lb := G8.out.apart L8.out (by decide) (by decide) (by decide) (by decide)
          refine ⟨vs8, (?_ : Mw T 0 n p r q vs8 sy.1 sy.2 (t + 2 * (i + 1)) w9), M8.out.fresh K9.out (by have := HLb.out; simp; omega), R9.out, L9.out⟩
          obtain ⟨t0, ht0, hh⟩ := G8.out.hw
          have hgn := G8.out.gn
          have hgl : 0 ∉ [lb] := fun e => by
            have e' := List.mem_singleton.1 e
            have cc := G8.out.tab.c0
            have hz := HLb.out
            first
              | omega
              | (rw [show (0 : Nat) = lb from e', cell_of_row L8.out] at cc
                 simp at cc)
          exact ⟨⟨t0, by omega, hh.keep K9.out (by simp; exact fun e => hapl.1 e.symm) (by simp; exact fun e => hapl.2.1 e.symm)⟩, G8.out.ls.keep K9.out (by simp; exact fun e => hapl.2.2.1 e.symm) (fun g hg e => by
            simp only [List.mem_singleton] at e
            subst e
            exact hapl.2.2.2 hg), G8.out.lk, G8.out.sm, tab_keep G8.out.tab K9.out hgl, hgn⟩
      all_goals clear K9 R9 L9 R8 L8 M8 G8 K6 HC HC0 HCe2 HLs HM HK HRow HLbr HTb HEq mu1 mu2
      all_goals go_wp2_with fail
      all_goals go_roundg (m - (i + 1))
      all_goals first
        | exact ⟨i + 1, bo, by omega, by go_num, rfl, F9⟩
        | omega
    · obtain rfl : i = m := by omega
      have hfl2 : fl = (swCells T n o c b (H, R) i).2 := by rw [hfl, decide_eq_true (by have := HM2.out; omega)]; rfl
      rw [← hfl2] at HFi
      generalize (swCells T n o c b (H, R) i).1 = s at hM HFi
      have HC : wr.cell? ⟨w.heap.size, 0, none⟩ = some (.iface 31 (.pointer (some ⟨p, 0, none⟩))) ∧ wr.cell? ⟨w.heap.size, 1, none⟩ = some (.int .i64 T) ∧ wr.cell? ⟨w.heap.size, 2, none⟩ = some (.int .i64 ((0 : Nat) : Int)) ∧ wr.cell? ⟨w.heap.size, 3, none⟩ = some (.int .i64 n) ∧ wr.cell? ⟨w.heap.size, 4, none⟩ = some (.int .u8 o) ∧ wr.cell? ⟨w.heap.size, 5, none⟩ = some (.pointer (some ⟨q, 0, none⟩)) ∧ wr.cell? ⟨w.heap.size, 6, none⟩ = some (.bool wk) := ⟨(cell_of_row hrow 0).trans rfl, (cell_of_row hrow 1).trans rfl, (cell_of_row hrow 2).trans rfl, (cell_of_row hrow 3).trans rfl, (cell_of_row hrow 4).trans rfl, (cell_of_row hrow 5).trans rfl, (cell_of_row hrow 6).trans rfl⟩
      obtain ⟨c0, c1, c2, c3, c4, c5, c6⟩ := HC
      have HE := Lib.hid (HEm.out s vs1 (t + 2 * i) wr (by have := HTt.out; omega) hM)
      have HM := Lib.hid (And.intro hM hK)
      have HFi := Lib.hid HFi
      clear hM hK hrow hlb hfl hfl2 HR
      cases fl
      · have HF : Hid (fin = s) := Lib.hid HFi.out
        clear HFi
        go_wp2_with fail
        go_end0
        exact ⟨rfl, vs1, by rw [HF.out]; exact HM.out.1.more (by omega), HM.out.2⟩
      · have HF : Hid (fin = swEmpty T n o b wk s) := Lib.hid HFi.out
        clear HFi
        go_wp2_with fail
        refine HE.out.mono ?_
        rintro e w5 ⟨rfl, vs5, h5, k5⟩
        have H5 := Lib.hid (And.intro h5 (HM.out.2.trans k5))
        clear h5 k5 c0 c1 c2 c3 c4 c5 c6
        go_wp2_with fail
        go_end0
        exact ⟨rfl, vs5, by rw [HF.out]; exact H5.out.1.more (by omega), H5.out.2⟩
end
end Go.Proofs.YticbnckikkdknaaGreatDoor

namespace Go.Proofs.YticbnckikkdknaaGreatDoor
set_option linter.unusedVariables false
set_option linter.unusedSimpArgs false
set_option maxRecDepth 100000
open Go.RowKit Go.Maps

section
variable {T n p r q t o : Nat} {wk : Bool} {vs vs' : Nat → Value} {H : List Int} {R : Nat → List Int} {w w' : World}
theorem Wy.mk {b : Nat} (h : Wy b w) (hm : Mw T 0 n p r q vs H R t w) (k : Mk p r q vs vs' w w') : Wy b w' := by
  obtain ⟨D, ⟨es, clock, hb, r'⟩, h2⟩ := h
  obtain ⟨a1, a2, a3, e1, e2, e3⟩ := hm.types
  refine ⟨D, ⟨es, clock, k.row ?_ ?_ ?_ ?_ hb, r'⟩, h2⟩
  · rintro rfl; rw [hb] at e1; simp at e1
  · rintro rfl; rw [hb] at e2; simp at e2
  · rintro rfl; rw [hb] at e3; simp at e3
  · intro ho
    obtain ⟨cs, e4⟩ := owns_type hm.ls ho
    rw [hb] at e4; simp at e4
theorem Wy.kp2 {b : Nat} (h : Wy b w) (hm : Mw T 0 n p r q vs H R t w) (k : Kp [p, r] w w') : Wy b w' := h.mk hm (Mk.of_kp (vs := vs) k (by simp))
theorem ek_in (x : Int) : 0 ≤ ek x ∧ ek x ≤ 255 := by unfold ek; split <;> omega
theorem ec_in (x : Int) : 0 ≤ ec x ∧ ec x ≤ 3 := by unfold ec; split <;> omega
theorem er_in2 (x : Int) : 0 ≤ er x ∧ er x ≤ 3 := by unfold er; split <;> omega
/-- What is done with a block. -/
theorem sw_way (s : Hs) (x : Int) (i : Nat) (hi : i < n) (ho : o < 64) (hx : en T s.1 i = x) (hx0 : 0 ≤ x) (kn : Nat) (hkn : ek x = kn) :
    (wayF kn = none ∧ swBlock T n o wk s i = s) ∨ ∃ F, wayF kn = some F ∧ (∀ (args : Array Value) (w : World), (callFunc F args).run Tryz.prog w = .ok (.enter F args) w) ∧ (eo x ≠ o → swBlock T n o wk s i = s) ∧ (eo x = o → ∀ (vq : Nat → Value) (tq : Nat) (wq : World), tq ≤ 500000 → Mw T 0 n p r q vq s.1 s.2 tq wq → Calls Tryz.prog F #[swV T n p q o wk, .int .i64 i, .agg #[.int .u8 (ek x), .int .u8 (ec x), .int .u8 (er x), .int .u8 (eo x)]] wq fun e w' => e = .returned (.tuple #[]) ∧ ∃ vs', Mw T 0 n p r q vs' (swBlock T n o wk s i).1 (swBlock T n o wk s i).2 (tq + 37) w' ∧ Mk p r q vq vs' wq w') := by
  have hno : eo x ≠ o → swBlock T n o wk s i = s := fun h => by unfold swBlock; rw [hx, if_neg h]
  have hec := ec_in x
  have her := er_in2 x
  have hmk : ∀ {vq : Nat → Value} {w1 w2 : World}, Kp [p, r] w1 w2 → Mk p r q vq vq w1 w2 := fun k => Mk.of_kp k (by simp)
  have hback : (kn = 4 ∨ kn = 5) → eo x = o → ∀ (vq : Nat → Value) (tq : Nat) (wq : World), tq ≤ 500000 → Mw T 0 n p r q vq s.1 s.2 tq wq → Calls Tryz.prog 78 #[swV T n p q o wk, .int .i64 i, .agg #[.int .u8 (ek x), .int .u8 (ec x), .int .u8 (er x), .int .u8 (eo x)]] wq fun e w' => e = .returned (.tuple #[]) ∧ ∃ vs', Mw T 0 n p r q vs' (swBlock T n o wk s i).1 (swBlock T n o wk s i).2 (tq + 37) w' ∧ Mk p r q vq vs' wq w' := fun hk he vq tq wq htq hq => by
    have hb : swBlock T n o wk s i = (swBack T n wk s.1 i (Tb.blkE (ek x) (er x)), s.2) := by
      unfold swBlock
      rw [hx, if_pos he, if_neg (by omega), if_neg (by omega), if_pos (by omega)]
    rw [hb]
    refine (sw_back hq (by omega) i (ek x) (ec x) (er x) (eo x) her.1 (by omega) _ rfl).mono ?_
    rintro e w' ⟨rfl, h2, k2⟩
    exact ⟨rfl, vq, h2.more (by omega), hmk k2⟩
  by_cases h1 : kn = 1
  · subst h1
    refine .inr ⟨76, rfl, fun _ _ => rfl, hno, fun he vq tq wq htq hq => ?_⟩
    obtain ⟨hm, -, -, -, -, -⟩ := swent_parts hx0 (by omega)
    have hm := Tb.mayE_iff.1 hm
    have hr0 : er x = 0 := by have := hm.2.2.2.2.2.2.1 (by omega) (by omega); omega
    obtain ⟨c, hc⟩ := Int.eq_ofNat_of_zero_le hec.1
    have hb : swBlock T n o wk s i = swSmall T n o c i wk s := by
      unfold swBlock
      rw [hx, if_pos he, if_pos (by omega), hc]; rfl
    rw [hb, hkn, he, hr0, hc]
    exact sw_small hq htq ho i hi c (by omega)
  · by_cases h2 : kn = 2
    · subst h2
      refine .inr ⟨77, rfl, fun _ _ => rfl, hno, fun he vq tq wq htq hq => ?_⟩
      obtain ⟨hm, -, -, -, -, -⟩ := swent_parts hx0 (by omega)
      have hm := Tb.mayE_iff.1 hm
      have hc0 : ec x = 0 := by have := hm.2.2.2.2.1 (by omega); omega
      have hr1 := hm.2.2.2.2.2.1 (.inl (by omega))
      obtain ⟨run, hr⟩ := Int.eq_ofNat_of_zero_le her.1
      have hb : swBlock T n o wk s i = (swLargeH T n o i run wk s.1, s.2) := by
        unfold swBlock
        rw [hx, if_pos he, if_neg (by omega), if_pos (by omega), hr]; rfl
      rw [hb, hkn, he, hc0, hr]
      refine (sw_large hq (by omega) ho i hi run (by omega) (by omega)).mono ?_
      rintro e w' ⟨rfl, h2, k2⟩
      exact ⟨rfl, vq, h2.more (by omega), hmk k2⟩
    · by_cases h4 : kn = 4
      · subst h4
        exact .inr ⟨78, rfl, fun _ _ => rfl, hno, hback (.inl rfl)⟩
      · by_cases h5 : kn = 5
        · subst h5
          exact .inr ⟨78, rfl, fun _ _ => rfl, hno, hback (.inr rfl)⟩
        · refine .inl ⟨by unfold wayF; rw [if_neg h5, if_neg h4, if_neg h2, if_neg h1], ?_⟩
          unfold swBlock
          rw [hx]
          split
          · rw [if_neg (by omega), if_neg (by omega), if_neg (by omega)]
          · rfl

/-- What Sweep holds. -/
def Swl (T n p r q o : Nat) (wk : Bool) (t SB mb : Nat) (vs : Nat → Value) (H : List Int) (R : Nat → List Int) (w : World) (i : Nat) (wr : World) : Prop :=
  ∃ vs', Mw T 0 n p r q vs' (sweepS T n o wk (H, R) i).1 (sweepS T n o wk (H, R) i).2 (t + 40 * i) wr ∧ Mk p r q vs vs' w wr ∧ wr.heap[w.heap.size]? = some (.cells #[.int .i64 T, .int .i64 ((0 : Nat) : Int), .int .i64 n] 33 (0, 0)) ∧ wr.heap[SB]? = some (.cells (swC T n p q o wk) 106 (0, 0)) ∧ Wy mb wr
set_option maxHeartbeats 16000000 in
/-- Sweep. -/
theorem sw_sweep (h : Mw T 0 n p r q vs H R t w) (ht : t ≤ 400000) (ho : o < T) :
    Calls Tryz.prog 19 #[.iface 31 (.pointer (some ⟨p, 0, none⟩)), .agg #[.int .i64 T, .int .i64 ((0 : Nat) : Int), .int .i64 n], .int .u8 o, .pointer (some ⟨q, 0, none⟩), .bool wk] w fun e w' => e = .returned (.int .i64 0) ∧ ∃ vs', Mw T 0 n p r q vs' (sweepS T n o wk (H, R) n).1 (sweepS T n o wk (H, R) n).2 (t + 40 * n) w' ∧ Mk p r q vs vs' w w' := by
  have hf := h.fit
  have HTh := Lib.hid (fun w => Ly.threads_is T ((0 : Nat) : Int) n w)
  have HBl := Lib.hid (fun w => Ly.blocks_is T ((0 : Nat) : Int) n w)
  have HWy := Lib.hid ways_is
  have hcv : IntKind.i64.wrap (o : Int) = o := IntWalk.i64_in _ (by omega)
  have hge : ¬ ((T : Int) ≤ (o : Int)) := by omega
  have HSu : Hid (∀ i, sweepS T n o wk (H, R) (i + 1) = swBlock T n o wk (sweepS T n o wk (H, R) i) i) := Lib.hid fun i => rfl
  have HM := Lib.hid h
  have HF := Lib.hid (And.intro ht (And.intro hf ho))
  obtain ⟨w1, hw1⟩ : ∃ w1, w1 = w.alloc (.cells #[.int .i64 T, .int .i64 0, .int .i64 n] 33) := ⟨_, rfl⟩
  have k1 : Kp [] w w1 := by rw [hw1]; exact (Kp.refl _ _).alloc _
  have r1 : w1.heap[w.heap.size]? = some (.cells #[.int .i64 T, .int .i64 ((0 : Nat) : Int), .int .i64 n] 33 (0, 0)) := by rw [hw1]; exact heap_alloc_new _ _
  have l0 := (cell_of_row r1 0).trans (show _ = some (.int .i64 T) from rfl)
  have l1 := (cell_of_row r1 1).trans (show _ = some (.int .i64 ((0 : Nat) : Int)) from rfl)
  have l2 := (cell_of_row r1 2).trans (show _ = some (.int .i64 n) from rfl)
  have H1 := Lib.hid (And.intro k1 r1)
  clear h ht hf ho k1 r1
  go_enter Tryz.func19, Tryz.ntmps19
  go_upto_region 1 with (fail)
  rw [← hw1]
  clear hw1
  go_wp2_with fail
  refine (HTh.out _).mono ?_
  rintro e w2 ⟨rfl, k2⟩
  have k2' := H1.out.1.trans k2
  have r2 := k2.row (by simp) H1.out.2
  have H2 := Lib.hid (And.intro k2' r2)
  clear k2 k2' r2 l0 l1 l2 H1
  have l0 := (cell_of_row H2.out.2 0).trans (show _ = some (.int .i64 T) from rfl)
  have l1 := (cell_of_row H2.out.2 1).trans (show _ = some (.int .i64 ((0 : Nat) : Int)) from rfl)
  have l2 := (cell_of_row H2.out.2 2).trans (show _ = some (.int .i64 n) from rfl)
  go_upto_region 6 with (fail)
  obtain ⟨SB, hSB⟩ : ∃ SB, SB = w2.heap.size := ⟨_, rfl⟩
  obtain ⟨w3, hw3⟩ : ∃ w3, w3 = w2.alloc (.cells (swC T n p q o wk) 106) := ⟨_, rfl⟩
  have k3 : Kp [] w2 w3 := by rw [hw3]; exact (Kp.refl _ _).alloc _
  have s3 : w3.heap[SB]? = some (.cells (swC T n p q o wk) 106 (0, 0)) := by rw [hw3, hSB]; exact heap_alloc_new _ _
  have H3 := Lib.hid (And.intro (H2.out.1.trans k3) (And.intro (k3.row (by simp) H2.out.2) s3))
  unfold swC at hw3
  rw [← hSB, ← hw3]
  clear k3 s3 hSB hw3 l0 l1 l2 H2
  go_wp2_with fail
  refine (HWy.out _).mono ?_
  rintro e w4 ⟨⟨mb, rfl, hwy, hmz⟩, k4⟩
  have HB : Hid (Swl T n p r q o wk t SB mb vs H R w 0 w4) := Lib.hid ⟨vs, HM.out.on (H3.out.1.trans k4), Mk.of_kp (H3.out.1.trans k4) (by simp), k4.row (by simp) H3.out.2.1, k4.row (by simp) H3.out.2.2, hwy⟩
  have r4 := k4.row (by simp) H3.out.2.1
  clear hwy hmz k4 H3
  have l0 := (cell_of_row r4 0).trans (show _ = some (.int .i64 T) from rfl)
  have l1 := (cell_of_row r4 1).trans (show _ = some (.int .i64 ((0 : Nat) : Int)) from rfl)
  have l2 := (cell_of_row r4 2).trans (show _ = some (.int .i64 n) from rfl)
  clear r4
  go_wp2_with fail
  refine (HBl.out _).mono ?_
  rintro e w5 ⟨rfl, k5⟩
  have HB : Hid (Swl T n p r q o wk t SB mb vs H R w 0 w5) := Lib.hid (by
    obtain ⟨vs', a1, a2, a3, a4, a5⟩ := HB.out
    exact ⟨vs', a1.on k5, a2.trans (Mk.of_kp k5 (by simp)), k5.row (by simp) a3, k5.row (by simp) a4, a5.keep k5 (by simp)⟩)
  clear k5 l0 l1 l2
  go_wp2_with fail
  go_loopg [37] n (fun gg v37 wr => ∃ i : Nat, i + gg = n ∧ v37 = .int .i64 i ∧ Hid (Swl T n p r q o wk t SB mb vs H R w i wr))
  case atStart => exact ⟨0, by omega, rfl, HB⟩
  case round =>
    clear HB
    obtain ⟨i, hi, rfl, HR⟩ := hrel
    obtain ⟨vs1, hM, hK, hrl, hrs, hwy⟩ := HR.out
    by_cases hlt2 : i < n
    · have hn64 : n ≤ 64 := HF.out.2.1.2.2.2
      have hS1 := HSu.out i
      obtain ⟨s, hs⟩ : ∃ s, s = sweepS T n o wk (H, R) i := ⟨_, rfl⟩
      rw [← hs] at hM hS1
      obtain ⟨x, hx⟩ : ∃ x, en T s.1 i = x := ⟨_, rfl⟩
      have hx0 := hM.word (3 + T + 0 + i)
      rw [show s.1.getD (3 + T + 0 + i) 0 = x from hx] at hx0
      obtain ⟨kn, hkn⟩ := Int.eq_ofNat_of_zero_le (ek_in x).1
      have hk255 : kn ≤ 255 := by have := (ek_in x).2; omega
      have hway := sw_way (T := T) (n := n) (p := p) (r := r) (q := q) (o := o) (wk := wk) s x i hlt2 (by have := HF.out.2.1.2.1; have := HF.out.2.2; omega) hx hx0.1 kn hkn
      have HEn : Hid (Calls Tryz.prog 44 #[.iface 31 (.pointer (some ⟨p, 0, none⟩)), .agg #[.int .i64 T, .int .i64 ((0 : Nat) : Int), .int .i64 n], .int .i64 i] wr fun e w2 => e = .returned (.agg #[.int .u8 (ek x), .int .u8 (ec x), .int .u8 (er x), .int .u8 (eo x)]) ∧ Mw T 0 n p r q vs1 s.1 s.2 (t + 40 * i + 1) w2 ∧ Kp [p, r] wr w2) := Lib.hid (by
        obtain ⟨t0, ht0, hh⟩ := hM.hw
        refine (g_entry hh (by have := HF.out.1; have := HF.out.2.1; omega) i hlt2 x hx).mono ?_
        rintro e w2 ⟨rfl, h3, h4⟩
        exact ⟨rfl, hM.turn h4 ⟨t0 + 1, by omega, h3⟩ rfl, h4⟩)
      have hap1 := hM.apart hrl (by decide) (by decide) (by decide) (by decide)
      have hap2 := hM.apart hrs (by decide) (by decide) (by decide) (by decide)
      have hzl := lt_of_block hrl
      have hzs := lt_of_block hrs
      have HRw := Lib.hid (And.intro hrl (And.intro hrs (And.intro hwy (And.intro hap1 hap2))))
      have HM2 := Lib.hid (And.intro hM hK)
      have l0 := (cell_of_row hrl 0).trans (show _ = some (.int .i64 T) from rfl)
      have l1 := (cell_of_row hrl 1).trans (show _ = some (.int .i64 ((0 : Nat) : Int)) from rfl)
      have l2 := (cell_of_row hrl 2).trans (show _ = some (.int .i64 n) from rfl)
      obtain ⟨xk, hxk⟩ : ∃ xk, xk = ek x := ⟨_, rfl⟩
      obtain ⟨xc, hxc⟩ : ∃ xc, xc = ec x := ⟨_, rfl⟩
      obtain ⟨xr, hxr⟩ : ∃ xr, xr = er x := ⟨_, rfl⟩
      obtain ⟨xo, hxo⟩ : ∃ xo, xo = eo x := ⟨_, rfl⟩
      rw [← hxk, ← hxc, ← hxr, ← hxo] at HEn hway
      rw [← hxk] at hkn
      have HWay := Lib.hid hway
      have HKn := Lib.hid hkn
      have HS1 := Lib.hid hS1
      clear hway hS1 hs hx hx0 hxk hxc hxr hxo hkn hM hK hrl hrs hwy hap1 hap2 hzl hzs HR
      go_wp2_with fail
      refine HEn.out.mono ?_
      rintro e w6 ⟨rfl, h6, k6⟩
      have n0 : w.heap.size ∉ [p, r] := by have := HRw.out.2.2.2.1; simp; omega
      have n1 : SB ∉ [p, r] := by have := HRw.out.2.2.2.2; simp; omega
      have kA : Kp [] w6 (w6.alloc (.cells #[.int .u8 xk, .int .u8 xc, .int .u8 xr, .int .u8 xo] 110)) := (Kp.refl _ _).alloc _
      have hrl7 := kA.row (by simp) (k6.row n0 HRw.out.1)
      have hrs7 := kA.row (by simp) (k6.row n1 HRw.out.2.1)
      have hwy7 := (HRw.out.2.2.1.kp2 HM2.out.1 k6).keep kA (by simp)
      have hre7 := heap_alloc_new w6 (.cells #[.int .u8 xk, .int .u8 xc, .int .u8 xr, .int .u8 xo] 110)
      have hM7 := h6.on kA
      have hK7 := HM2.out.2.trans (Mk.of_kp (q := q) (vs := vs1) (k6.trans (kA.mono (by simp))) (by simp))
      obtain ⟨eb, heb⟩ : ∃ eb, eb = w6.heap.size := ⟨_, rfl⟩
      obtain ⟨w7, hw7⟩ : ∃ w7, w7 = w6.alloc (.cells #[.int .u8 xk, .int .u8 xc, .int .u8 xr, .int .u8 xo] 110) := ⟨_, rfl⟩
      rw [← hw7] at hrl7 hrs7 hwy7 hre7 hM7 hK7
      rw [← heb] at hre7
      have H7 := Lib.hid (And.intro hM7 (And.intro hK7 (And.intro hrl7 (And.intro hrs7 (And.intro hwy7 hre7)))))
      clear h6 k6 kA hrl7 hrs7 hwy7 hre7 hM7 hK7 n0 n1 l0 l1 l2 HEn
      go_upto_region 11 with (fail)
      rw [← heb, ← hw7]
      clear heb hw7
      have x0 := (cell_of_row H7.out.2.2.2.2.2 0).trans (show _ = some (.int .u8 xk) from rfl)
      have x1 := (cell_of_row H7.out.2.2.2.2.2 1).trans (show _ = some (.int .u8 xc) from rfl)
      have x2 := (cell_of_row H7.out.2.2.2.2.2 2).trans (show _ = some (.int .u8 xr) from rfl)
      have x3 := (cell_of_row H7.out.2.2.2.2.2 3).trans (show _ = some (.int .u8 xo) from rfl)
      have c0 := (cell_of_row H7.out.2.2.2.1 0).trans (show _ = some (.iface 31 (.pointer (some ⟨p, 0, none⟩))) from rfl)
      have c1 := (cell_of_row H7.out.2.2.2.1 1).trans (show _ = some (.int .i64 T) from rfl)
      have c2 := (cell_of_row H7.out.2.2.2.1 2).trans (show _ = some (.int .i64 ((0 : Nat) : Int)) from rfl)
      have c3 := (cell_of_row H7.out.2.2.2.1 3).trans (show _ = some (.int .i64 n) from rfl)
      have c4 := (cell_of_row H7.out.2.2.2.1 4).trans (show _ = some (.int .u8 o) from rfl)
      have c5 := (cell_of_row H7.out.2.2.2.1 5).trans (show _ = some (.pointer (some ⟨q, 0, none⟩)) from rfl)
      have c6 := (cell_of_row H7.out.2.2.2.1 6).trans (show _ = some (.bool wk) from rfl)
      have hlook := H7.out.2.2.2.2.1.look hk255
      rw [show ((kn : Nat) : Int) = xk from HKn.out.symm] at hlook
      rcases HWay.out with ⟨hw, hsame⟩ | ⟨F, hw, hen, hno, hyes⟩
      · rw [hw] at hlook
        simp only [Option.isSome_none] at hlook
        have F7 : Hid (Swl T n p r q o wk t SB mb vs H R w (i + 1) w7) := Lib.hid (by
          refine ⟨vs1, ?_, H7.out.2.1, H7.out.2.2.1, H7.out.2.2.2.1, H7.out.2.2.2.2.1⟩
          rw [HS1.out, hsame]
          exact H7.out.1.more (by omega))
        clear hw hsame HWay
        go_wp2_with fail
        go_roundg (n - (i + 1))
        case rel => exact ⟨i + 1, by omega, by go_num, F7⟩
        case measure => omega
      · rw [hw] at hlook
        simp only [Option.isSome_some] at hlook
        by_cases hxo : xo = (o : Int)
        · have e1 : (xo == (o : Int)) = true := by simp [hxo]
          have HBo := Lib.hid (hyes hxo vs1 (t + 40 * i + 1) w7 (by have := HF.out.1; have := HF.out.2.1; omega) H7.out.1)
          have HO := Lib.hid hxo
          clear hw hno hyes HWay hxo
          go_wp2_with fail
          refine HBo.out.mono ?_
          rintro e w8 ⟨rfl, vs8, h8, k8⟩
          have F8 : Hid (Swl T n p r q o wk t SB mb vs H R w (i + 1) w8) := Lib.hid (by
            refine ⟨vs8, ?_, H7.out.2.1.trans k8, H7.out.1.row k8 H7.out.2.2.1 (by decide) (by decide) (by decide) (by decide), H7.out.1.row k8 H7.out.2.2.2.1 (by decide) (by decide) (by decide) (by decide), H7.out.2.2.2.2.1.mk H7.out.1 k8⟩
            rw [HS1.out]
            exact h8.more (by omega))
          clear h8 k8 x0 x1 x2 x3 c0 c1 c2 c3 c4 c5 c6 hlook hen
          go_wp2_with fail
          go_roundg (n - (i + 1))
          case rel => exact ⟨i + 1, by omega, by go_num, F8⟩
          case measure => omega
        · have e1 : (xo == (o : Int)) = false := by simp [hxo]
          have F7 : Hid (Swl T n p r q o wk t SB mb vs H R w (i + 1) w7) := Lib.hid (by
            refine ⟨vs1, ?_, H7.out.2.1, H7.out.2.2.1, H7.out.2.2.2.1, H7.out.2.2.2.2.1⟩
            rw [HS1.out, hno hxo]
            exact H7.out.1.more (by omega))
          clear hw hno hyes HWay hxo
          go_wp2_with fail
          go_roundg (n - (i + 1))
          case rel => exact ⟨i + 1, by omega, by go_num, F7⟩
          case measure => omega
    · obtain rfl : i = n := by omega
      have HFi := Lib.hid (And.intro hM hK)
      clear hM hK hrl hrs hwy HR
      go_wp2_with fail
      go_ret
      exact ⟨rfl, vs1, HFi.out⟩
end
end Go.Proofs.YticbnckikkdknaaGreatDoor

namespace Go.Proofs.YticbnckikkdknaaGreatDoor
set_option linter.unusedVariables false
set_option linter.unusedSimpArgs false
set_option maxRecDepth 100000
open Go.RowKit
variable {Bz : Nat}

/-- What the document's Take says of a word. -/
theorem rtake_any (x : Int) (h0 : 0 ≤ x) (h1 : x < 18446744073709551616) : ∃ (k c o r s er : Int) (g m : Bool),
    Hid (∀ w, Calls Tryz.prog 28 #[.int .u64 x] w fun e w' => e = .returned (.tuple #[.agg #[.int .u8 k, .int .u8 c, .bool g, .bool m, .int .u8 o, .int .u8 r, .int .u8 s], .int .i64 er]) ∧ Kp [] w w') ∧
    ((er = 3 ∧ Wd.takeB x = false ∧ k = 0 ∧ c = 0 ∧ o = 0 ∧ r = 0 ∧ s = 0 ∧ g = false ∧ m = false) ∨ (er = 0 ∧ Wd.takeB x = true ∧ k = x % 4 ∧ c = x / 4 % 2 ∧ o = x / 32 % 64 ∧ r = x / 2048 % 128 ∧ s = x / 262144 % 128 ∧ g = (x / 8 % 2 == 1) ∧ m = mkB x)) := by
  cases ht : Wd.takeB x
  · exact ⟨0, 0, 0, 0, 0, 3, false, false, Lib.hid fun w => (Wd.rtake_none x w h0 h1 ht).mono fun e w' ⟨a, b⟩ => ⟨a, kp_of_below b⟩, .inl ⟨rfl, rfl, rfl, rfl, rfl, rfl, rfl, rfl, rfl⟩⟩
  · exact ⟨_, _, _, _, _, 0, _, _, Lib.hid fun w => (Wd.rtake_some x w h0 ht).mono fun e w' ⟨a, b⟩ => ⟨a, kp_of_below b⟩, .inr ⟨rfl, rfl, rfl, rfl, rfl, rfl, rfl, rfl, rfl⟩⟩

section
variable {T G n b c : Nat} {H : List Int} {w : World}
end
end Go.Proofs.YticbnckikkdknaaGreatDoor

namespace Go.Proofs.YticbnckikkdknaaGreatDoor
set_option linter.unusedVariables false
set_option linter.unusedSimpArgs false
set_option maxRecDepth 100000
open Go.RowKit
section
variable {B T n sp hb t t' : Nat} {qs : Nat → Nat} {S : As} {P : List Int} {w w1 w6 w7 : World} {Sx : List Nat} {H' : List Int}
theorem Hm.pr (h : Hm B T n sp hb qs S P t w w1) (k16 : Kp Sx w1 w6) (hSx : ∀ g ∈ Sx, g = B + 1 ∨ g = B ∨ w1.heap.size ≤ g) : Kp [B + 1, B] w1 w6 :=
  k16.mono fun g hg hl => by
    rcases hSx g hg with e | e | e
    · simp [e]
    · simp [e]
    · omega
/-- The document's words. -/
theorem Hm.docs (h : Hm B T n sp hb qs S P t w w1) (hT : 0 < T) (k16 : Kp Sx w1 w6) (hSx : ∀ g ∈ Sx, g = B + 1 ∨ g = B ∨ w1.heap.size ≤ g) : ∃ db dc, Dh (B + 1) T 0 n db dc S.H w6 ∧ ∀ wq, Kp [] w6 wq → wq.cell? ⟨sp, 6, none⟩ = some (.slice (some ⟨db, 0, none⟩) S.H.length dc) ∧ wq.frozen? ⟨sp, 6, none⟩ = false := by
  obtain ⟨v, col, pv, hA, hLo, hbx, hpv, hpc, hcb⟩ := h.ex
  have k := h.pr k16 hSx
  have hdb := hA.dbp hT
  have hsp := hA.spp hT
  refine ⟨v.db, v.dc, hA.dh.keepS k (by simp; omega), fun wq kq => ?_⟩
  have hst : S13 wq sp v.f := (hA.st.keep k (by simp; omega)).keep kq (by simp)
  refine ⟨(hst.cell (by decide)).trans (by rw [hA.f6, hA.fit.len]), hst.free 6⟩
theorem Hm.same (h : Hm B T n sp hb qs S P t w w1) (hT : 0 < T) (hT4 : T ≤ 64) (hn : n ≤ 12) : Calls Tryz.prog 20 #[.pointer (some ⟨sp, 0, none⟩)] w1 fun e w' => e = .returned (.bool true) ∧ Kp [] w1 w' := by
  obtain ⟨v, col, pv, hA, hLo, hbx, hpv, hpc, hcb⟩ := h.ex
  exact aw_same hA hT hT4 hn
end
section
variable {T n : Nat} {H : List Int} {Rs : Nat → Nat → List Int} {O : Obs} {V : Nat → Int} {F : Nat → Nat → Int} {o : Nat} {tel : Bool} {M : Nat → Bool}
end
end Go.Proofs.YticbnckikkdknaaGreatDoor
