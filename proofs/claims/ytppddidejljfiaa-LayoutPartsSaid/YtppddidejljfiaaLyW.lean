/- LayoutParts, walked: it returns true, and no block that was there has turned. Conditions: the numbers are those of an int. -/
import Derived.Test.YtppddidejljfiaaLyM
namespace Go.Proofs.Ytppddidejljfiaa
set_option linter.unusedVariables false
set_option linter.unusedSimpArgs false
open Go.RowKit

set_option maxRecDepth 100000 in
set_option maxHeartbeats 1000000 in
theorem parts_none (W T G n : Int) (w : World) (hn : n = 2 ∨ n = 4)
    (c1 : Hid (Ans 5 #[.int .i64 W, .int .i64 T, .int .i64 G] (.tuple #[.agg #[.int .i64 0, .int .i64 0, .int .i64 0], .int .i64 n]))) :
    Calls Try.prog 4 #[.int .i64 W, .int .i64 T, .int .i64 G] w fun e w' => e = .returned (.bool true) ∧ Kp [] w w' := by
  have k6 := Lib.hid (fun w => words_zero w)
  rcases hn with rfl | rfl
  all_goals (
    go_enter Try.func4, Try.ntmps4
    go_wp2_with fail
    refine (c1.out _).mono ?_; rintro e w1 ⟨rfl, hk⟩
    have kp := Lib.hid hk
    clear hk
    go_wp2_with fail
    refine (k6.out _).mono ?_; rintro e w2 ⟨rfl, hk⟩
    have kp2 := Lib.hid ((kp.out.alloc _).trans hk)
    clear hk kp
    go_wp2_with fail
    refine (wakes_is _).mono ?_; rintro e w3 ⟨rfl, hk⟩
    have kp3 := Lib.hid (kp2.out.trans hk)
    clear hk kp2
    go_wp2
    go_ret
    exact ⟨rfl, kp3.out⟩)

/-- The layout's box at p. -/
structure Pl (p : Nat) (t g b : Int) (w0 w : World) : Prop where
  hl : w.heap[p]? = some (.cells #[.int .i64 t, .int .i64 g, .int .i64 b] 23 (0, 0))
  kp : Kp [] w0 w
section
variable {p : Nat} {t g b : Int} {w0 w w' : World}
theorem Pl.on (h : Pl p t g b w0 w) (k : Kp [] w w') : Pl p t g b w0 w' := ⟨k.row (by simp) h.hl, h.kp.trans k⟩
theorem Pl.c0 (h : Pl p t g b w0 w) : w.cell? ⟨p, 0, none⟩ = some (.int .i64 t) := by rw [cell_of_row h.hl]; rfl
theorem Pl.c1 (h : Pl p t g b w0 w) : w.cell? ⟨p, 1, none⟩ = some (.int .i64 g) := by rw [cell_of_row h.hl]; rfl
theorem Pl.c2 (h : Pl p t g b w0 w) : w.cell? ⟨p, 2, none⟩ = some (.int .i64 b) := by rw [cell_of_row h.hl]; rfl
end
/-- The same, and the number's box at q. -/
structure Pn (p q : Nat) (t g b : Int) (n : Nat) (w0 w : World) : Prop where
  pl : Pl p t g b w0 w
  hn : w.heap[q]? = some (.cells #[.int .i64 n] 3 (0, 0))
section
variable {p q : Nat} {t g b : Int} {n : Nat} {w0 w w' : World}
theorem Pn.on (h : Pn p q t g b n w0 w) (k : Kp [] w w') : Pn p q t g b n w0 w' := ⟨h.pl.on k, k.row (by simp) h.hn⟩
theorem Pn.cn (h : Pn p q t g b n w0 w) : w.cell? ⟨q, 0, none⟩ = some (.int .i64 n) := by rw [cell_of_row h.hn]; rfl
/-- The row and its box are made. -/
theorem Pn.made (h : Pn p q t g b n w0 w) : Sn p q (w.heap.size + 1) w.heap.size t g b n (fun _ => 0) w0 ((w.alloc (.cells (rv n fun _ => 0) 3)).alloc (.cells #[.slice (some ⟨w.heap.size, 0, none⟩) n n] 37)) := by
  have k := ((Kp.refl [] w).alloc (.cells (rv n fun _ => 0) 3)).alloc (.cells #[.slice (some ⟨w.heap.size, 0, none⟩) n n] 37)
  have l1 := lt_of_block h.pl.hl
  have l2 := lt_of_block h.hn
  refine ⟨k.row (by simp) h.pl.hl, k.row (by simp) h.hn, ?_, heap_alloc2_old w _ _, h.pl.kp.trans k, h.pl.kp.size, by omega, by omega, by omega⟩
  have := heap_alloc_new (w.alloc (.cells (rv n fun _ => 0) 3)) (.cells #[.slice (some ⟨w.heap.size, 0, none⟩) n n] 37)
  rwa [World.size_alloc] at this
end

/-- The closure, its numbers in whatever spelling. -/
theorem mark_at (p q s r a k n : Nat) (t g b : Int) (f f' : Nat → Int) (w0 w : World) (x y : Int) (hx : x = a) (hy : y = k) (h : Sn p q s r t g b n f w0 w) (hn : n ≤ 4096) (hak : a + k ≤ n) (hf : ∀ j, a ≤ j → j < a + k → f j = 0) (e : ∀ j, mk a k f j = f' j) :
    Calls Try.prog 22 #[.int .i64 x, .int .i64 y, .pointer (some ⟨q, 0, none⟩), .pointer (some ⟨s, 0, none⟩)] w fun e w' => e = .returned (.bool true) ∧ Sn p q s r t g b n f' w0 w' := by
  subst hx hy
  exact (mark_is p q s r a k n t g b f w0 w h hn hak hf).mono fun e' w' ⟨he, hs⟩ => ⟨he, hs.as (funext e)⟩

/-- The layout's box at p, by its cells. -/
abbrev Pb (p : Nat) (t g b : Int) (w0 w : World) : Prop :=
  w.cell? ⟨p, 0, none⟩ = some (.int .i64 t) ∧ w.cell? ⟨p, 1, none⟩ = some (.int .i64 g) ∧ w.cell? ⟨p, 2, none⟩ = some (.int .i64 b) ∧ Kp [] w0 w ∧ p < w.heap.size
theorem pb_drew {p q s r : Nat} {t g b : Int} {n : Nat} {f : Nat → Int} {w0 w : World} (h : Sn p q s r t g b n f w0 w) : Pb p t g b w0 w.drew :=
  ⟨h.cl0, h.cl1, h.cl2, h.kp.drew, lt_of_block h.hl⟩
theorem pb_step {p : Nat} {t g b : Int} {w0 w w' : World} (h : Pb p t g b w0 w) (hk : Kp [] w w') : Pb p t g b w0 w' := by
  obtain ⟨s0, s1, s2, s7, s8⟩ := h
  have hc := (bcell hk.to_below).1
  exact ⟨(hc _ _ s8).trans s0, (hc _ _ s8).trans s1, (hc _ _ s8).trans s2, s7.trans hk, Nat.lt_of_lt_of_le s8 hk.size⟩

/-- The first m are marked. -/
def fl (m : Nat) (j : Nat) : Int := if j < m then 1 else 0
theorem fl_zero : (fun _ : Nat => (0 : Int)) = fl 0 := by funext j; simp [fl]
theorem fl_free (m : Nat) : ∀ j, m ≤ j → j < m + 1 → fl m j = 0 := fun j h _ => if_neg (by omega)
theorem fl_next (m : Nat) : ∀ j, mk m 1 (fl m) j = fl (m + 1) j := fun j => by
  unfold mk fl
  by_cases h : j < m
  · rw [if_neg (by omega), if_pos h, if_pos (by omega)]
  · by_cases h2 : j = m
    · rw [if_pos (by omega), if_pos (by omega)]
    · rw [if_neg (by omega), if_neg h, if_neg (by omega)]
/-- The first m, and c blocks from z on. -/
def ft (m z c : Nat) (j : Nat) : Int := if j < m ∨ (z ≤ j ∧ j < z + 32 * c) then 1 else 0
theorem ft_zero (m z : Nat) : fl m = ft m z 0 := by
  funext j; unfold fl ft
  by_cases h : j < m
  · rw [if_pos h, if_pos (.inl h)]
  · rw [if_neg h, if_neg (by omega)]
theorem ft_free (m z c : Nat) (h : m < z) : ∀ j, m ≤ j → j < m + 1 → ft m z c j = 0 := fun j h1 h2 => if_neg (by omega)
theorem ft_next (m z c : Nat) (h : m < z) : ∀ j, mk m 1 (ft m z c) j = ft (m + 1) z c j := fun j => by
  unfold mk ft
  by_cases h2 : j = m
  · rw [if_pos (by omega), if_pos (by omega)]
  · rw [if_neg (by omega)]
    by_cases h3 : j < m ∨ (z ≤ j ∧ j < z + 32 * c)
    · rw [if_pos h3, if_pos (by omega)]
    · rw [if_neg h3, if_neg (by omega)]
theorem ft_free2 (m z c : Nat) (h : m ≤ z) : ∀ j, z + 32 * c ≤ j → j < z + 32 * c + 32 → ft m z c j = 0 := fun j h1 h2 => if_neg (by omega)
theorem ft_next2 (m z c : Nat) (h : m ≤ z) : ∀ j, mk (z + 32 * c) 32 (ft m z c) j = ft m z (c + 1) j := fun j => by
  unfold mk ft
  by_cases h2 : z + 32 * c ≤ j ∧ j < z + 32 * c + 32
  · rw [if_pos h2, if_pos (by omega)]
  · rw [if_neg h2]
    by_cases h3 : j < m ∨ (z ≤ j ∧ j < z + 32 * c)
    · rw [if_pos h3, if_pos (by omega)]
    · rw [if_neg h3, if_neg (by omega)]
theorem ft_full (z c j : Nat) (h : j < z + 32 * c) : ft z z c j = 1 := if_pos (by omega)

set_option maxRecDepth 100000 in
set_option maxHeartbeats 4000000 in
theorem parts_some (W T G : Int) (tn gn bn n : Nat) (w : World) (hT : T = tn) (hG : G = gn)
    (c1 : Hid (Ans 5 #[.int .i64 W, .int .i64 T, .int .i64 G] (.tuple #[.agg #[.int .i64 tn, .int .i64 gn, .int .i64 bn], .int .i64 0])))
    (c2 : Hid (Ans 10 #[.agg #[.int .i64 tn, .int .i64 gn, .int .i64 bn]] (.int .i64 n)))
    (aA : Hid (∀ k a : Nat, k < tn → a = 3 + k → Ans 14 #[.agg #[.int .i64 tn, .int .i64 gn, .int .i64 bn], .int .i64 k] (.int .i64 a)))
    (aG : Hid (∀ k a : Nat, k < gn → a = 3 + tn + k → Ans 16 #[.agg #[.int .i64 tn, .int .i64 gn, .int .i64 bn], .int .i64 k] (.int .i64 a)))
    (aE : Hid (∀ k a : Nat, k < bn → a = 3 + tn + gn + k → Ans 18 #[.agg #[.int .i64 tn, .int .i64 gn, .int .i64 bn], .int .i64 k] (.int .i64 a)))
    (aS : Hid (∀ k a : Nat, k < bn → a = 3 + tn + gn + bn + 32 * k → Ans 20 #[.agg #[.int .i64 tn, .int .i64 gn, .int .i64 bn], .int .i64 k] (.int .i64 a)))
    (z1 : Hid (Ans 14 #[.agg #[.int .i64 tn, .int .i64 gn, .int .i64 bn], .int .i64 tn] (.int .i64 (-1))))
    (z2 : Hid (Ans 16 #[.agg #[.int .i64 tn, .int .i64 gn, .int .i64 bn], .int .i64 gn] (.int .i64 (-1))))
    (z3 : Hid (Ans 18 #[.agg #[.int .i64 tn, .int .i64 gn, .int .i64 bn], .int .i64 bn] (.int .i64 (-1))))
    (z4 : Hid (Ans 20 #[.agg #[.int .i64 tn, .int .i64 gn, .int .i64 bn], .int .i64 (-1)] (.int .i64 (-1))))
    (hn : Hid (n = 3 + tn + gn + 33 * bn)) (n0 : 1 ≤ n) (nW : (n : Int) ≤ W) (W1 : W ≤ 4096) (b0 : 1 ≤ bn) (b1 : bn ≤ 64) (t1 : tn ≤ 64) (g1 : gn ≤ 8)
    (hlast : ((bn : Int) < 64 ∧ W - n ≤ 32) ∨ 64 ≤ (bn : Int)) :
    Calls Try.prog 4 #[.int .i64 W, .int .i64 T, .int .i64 G] w fun e w' => e = .returned (.bool true) ∧ Kp [] w w' := by
  subst hT hG
  have kB := Lib.hid (fun w => blocks_is tn gn bn w)
  have hmk := make_ints n (by omega)
  rcases hlast with ⟨l1, l2⟩ | l1
  all_goals (
    go_enter Try.func4, Try.ntmps4
    go_wp2_with fail
    refine (c1.out _).mono ?_; rintro e w1 ⟨rfl, hk⟩
    have P1 := Lib.hid (Pl.mk (t := tn) (g := gn) (b := bn) (heap_alloc_last w1 _) (hk.alloc _))
    clear hk
    go_wp2_with fail
    refine (c2.out _).mono ?_; rintro e w2 ⟨rfl, hk⟩
    have P2 := Lib.hid (Pn.mk ((P1.out.on hk).on ((Kp.refl [] _).alloc _)) (heap_alloc_last w2 (.cells #[.int .i64 n] 3)))
    have q0 := P2.out.pl.c0
    have q1 := P2.out.pl.c1
    have q2 := P2.out.pl.c2
    clear hk P1
    go_wp2_with fail
    refine (kB.out _).mono ?_; rintro e w3 ⟨rfl, hk⟩
    have P3 := Lib.hid (P2.out.on hk)
    clear hk P2 q0 q1 q2
    have q0 := P3.out.pl.c0
    have q1 := P3.out.pl.c1
    have q2 := P3.out.pl.c2
    go_wp2_with fail
    refine (kB.out _).mono ?_; rintro e w4 ⟨rfl, hk⟩
    have P4 := Lib.hid (P3.out.on hk)
    clear hk P3 q0 q1 q2
    have q0 := P4.out.pl.c0
    have q1 := P4.out.pl.c1
    have q2 := P4.out.pl.c2
    go_wp2_with fail
    refine (kB.out _).mono ?_; rintro e w5 ⟨rfl, hk⟩
    have P5 := Lib.hid (P4.out.on hk)
    clear hk P4 q0 q1 q2
    have qn := P5.out.cn
    go_wp2_with fail
    have S0 := Lib.hid (P5.out.made.as fl_zero)
    clear P5 qn
    refine (mark_at _ _ _ _ 0 1 n _ _ _ _ _ _ _ _ _ rfl rfl S0.out (by omega) (by omega) (fl_free 0) (fl_next 0)).mono ?_; rintro e w6 ⟨rfl, hS⟩
    have S1 := Lib.hid hS
    clear hS S0
    go_wp2_with fail
    refine (mark_at _ _ _ _ 1 1 n _ _ _ _ _ _ _ _ _ rfl rfl S1.out (by omega) (by have := hn.out; omega) (fl_free 1) (fl_next 1)).mono ?_; rintro e w7 ⟨rfl, hS⟩
    have S2 := Lib.hid hS
    clear hS S1
    go_wp2_with fail
    refine (mark_at _ _ _ _ 2 1 n _ _ _ _ _ _ _ _ _ rfl rfl S2.out (by omega) (by have := hn.out; omega) (fl_free 2) (fl_next 2)).mono ?_; rintro e w8 ⟨rfl, hS⟩
    have S3 := Lib.hid hS
    clear hS S2
    go_wp2_with fail
    go_loopg [12, 13] tn (fun gg okv iv wr => ∃ k : Nat, k + gg = tn ∧ iv = .int .i64 k ∧ okv = .bool true ∧ Sn w1.heap.size w2.heap.size (w5.heap.size + 1) w5.heap.size tn gn bn n (fl (3 + k)) w wr)
    case atStart => exact ⟨0, by omega, rfl, rfl, S3.out⟩
    case round =>
      obtain ⟨k, hkg, rfl, rfl, S⟩ := hrel
      have HS := Lib.hid S
      clear S
      by_cases hk : k < tn
      · obtain ⟨a, ha⟩ : ∃ a, a = 3 + k := ⟨_, rfl⟩
        have cA := Lib.hid (aA.out k a hk ha)
        have HA := Lib.hid ha
        have q0 := HS.out.cl0
        have q1 := HS.out.cl1
        have q2 := HS.out.cl2
        clear ha
        go_wp2_with fail
        refine (cA.out _).mono ?_; rintro e w9 ⟨rfl, hk9⟩
        have S9 := Lib.hid (HS.out.on hk9)
        clear hk9 q0 q1 q2 HS
        go_wp2_with fail
        refine (mark_at _ _ _ _ a 1 n _ _ _ _ (fl (3 + (k + 1))) _ _ _ _ rfl rfl S9.out (by omega) (by have := hn.out; have := HA.out; omega) (by rw [← HA.out]; exact fl_free a) (by rw [show 3 + (k + 1) = a + 1 from by have := HA.out; omega, ← HA.out]; exact fl_next a)).mono ?_; rintro e w10 ⟨rfl, hS⟩
        have S10 := Lib.hid hS
        clear hS S9
        go_wp2
        go_roundg (tn - (k + 1))
        case rel => exact ⟨k + 1, by omega, by go_num, rfl, S10.out⟩
        case measure => omega
      · obtain rfl : k = tn := by omega
        obtain ⟨wa, rfl⟩ : ∃ wa : World, wa = wr := ⟨_, rfl⟩
        go_wp2_with fail
        go_loopg [12, 14] gn (fun gg okv iv wr => ∃ j : Nat, j + gg = gn ∧ iv = .int .i64 j ∧ okv = .bool true ∧ Sn w1.heap.size w2.heap.size (w5.heap.size + 1) w5.heap.size k gn bn n (fl (3 + k + j)) w wr)
        case atStart => exact ⟨0, by omega, rfl, rfl, HS.out⟩
        case round =>
          obtain ⟨j, hjg, rfl, rfl, S⟩ := hrel
          have HT := Lib.hid S
          clear S HS
          by_cases hj : j < gn
          · obtain ⟨a, ha⟩ : ∃ a, a = 3 + k + j := ⟨_, rfl⟩
            have cA := Lib.hid (aG.out j a hj ha)
            have HA := Lib.hid ha
            have q0 := HT.out.cl0
            have q1 := HT.out.cl1
            have q2 := HT.out.cl2
            clear ha
            go_wp2_with fail
            refine (cA.out _).mono ?_; rintro e w9 ⟨rfl, hk9⟩
            have S9 := Lib.hid (HT.out.on hk9)
            clear hk9 q0 q1 q2 HT
            go_wp2_with fail
            refine (mark_at _ _ _ _ a 1 n _ _ _ _ (fl (3 + k + (j + 1))) _ _ _ _ rfl rfl S9.out (by omega) (by have := hn.out; have := HA.out; omega) (by rw [← HA.out]; exact fl_free a) (by rw [show 3 + k + (j + 1) = a + 1 from by have := HA.out; omega, ← HA.out]; exact fl_next a)).mono ?_; rintro e w10 ⟨rfl, hS⟩
            have S10 := Lib.hid hS
            clear hS S9
            go_wp2
            go_roundg (gn - (j + 1))
            case rel => exact ⟨j + 1, by omega, by go_num, rfl, S10.out⟩
            case measure => omega
          · obtain rfl : j = gn := by omega
            obtain ⟨wb, rfl⟩ : ∃ wb : World, wb = wr := ⟨_, rfl⟩
            go_wp2_with fail
            go_loopg [12, 15] bn (fun gg okv iv wr => ∃ c : Nat, c + gg = bn ∧ iv = .int .i64 c ∧ okv = .bool true ∧ Sn w1.heap.size w2.heap.size (w5.heap.size + 1) w5.heap.size k j bn n (ft (3 + k + j + c) (3 + k + j + bn) c) w wr)
            case atStart => exact ⟨0, by omega, rfl, rfl, HT.out.as (ft_zero _ _)⟩
            case round =>
              obtain ⟨c, hcg, rfl, rfl, S⟩ := hrel
              have HU := Lib.hid S
              clear S HT
              have q0 := HU.out.cl0
              have q1 := HU.out.cl1
              have q2 := HU.out.cl2
              by_cases hc : c < bn
              · obtain ⟨a, ha⟩ : ∃ a, a = 3 + k + j + c := ⟨_, rfl⟩
                obtain ⟨z, hz⟩ : ∃ z, z = 3 + k + j + bn + 32 * c := ⟨_, rfl⟩
                have cA := Lib.hid (aE.out c a hc ha)
                have cZ := Lib.hid (aS.out c z hc hz)
                have HA := Lib.hid ha
                have HZ := Lib.hid hz
                clear ha hz
                go_wp2_with fail
                refine (kB.out _).mono ?_; rintro e w9 ⟨rfl, hk9⟩
                have S9 := Lib.hid (HU.out.on hk9)
                clear hk9 q0 q1 q2 HU
                have q0 := S9.out.cl0
                have q1 := S9.out.cl1
                have q2 := S9.out.cl2
                go_wp2_with fail
                refine (cA.out _).mono ?_; rintro e w10 ⟨rfl, hk9⟩
                have S10 := Lib.hid (S9.out.on hk9)
                clear hk9 q0 q1 q2 S9
                go_wp2_with fail
                refine (mark_at _ _ _ _ a 1 n _ _ _ _ (ft (3 + k + j + (c + 1)) (3 + k + j + bn) c) _ _ _ _ rfl rfl S10.out (by omega) (by have := hn.out; have := HA.out; omega) (by rw [← HA.out]; exact ft_free a _ c (by have := HA.out; omega)) (by rw [show 3 + k + j + (c + 1) = a + 1 from by have := HA.out; omega, ← HA.out]; exact ft_next a _ c (by have := HA.out; omega))).mono ?_; rintro e w11 ⟨rfl, hS⟩
                have S11 := Lib.hid hS
                clear hS S10
                have q0 := S11.out.cl0
                have q1 := S11.out.cl1
                have q2 := S11.out.cl2
                go_wp2_with fail
                refine (cZ.out _).mono ?_; rintro e w12 ⟨rfl, hk9⟩
                have S12 := Lib.hid (S11.out.on hk9)
                clear hk9 q0 q1 q2 S11
                go_wp2_with fail
                refine (mark_at _ _ _ _ z 32 n _ _ _ _ (ft (3 + k + j + (c + 1)) (3 + k + j + bn) (c + 1)) _ _ _ _ rfl rfl S12.out (by omega) (by have := hn.out; have := HZ.out; omega) (by rw [HZ.out]; exact ft_free2 _ _ c (by omega)) (by rw [HZ.out]; exact ft_next2 _ _ c (by omega))).mono ?_; rintro e w13 ⟨rfl, hS⟩
                have S13 := Lib.hid hS
                clear hS S12
                go_wp2
                go_roundg (bn - (c + 1))
                case rel => exact ⟨c + 1, by omega, by go_num, rfl, S13.out⟩
                case measure => omega
              · obtain rfl : c = bn := by omega
                obtain ⟨wc, rfl⟩ : ∃ wc : World, wc = wr := ⟨_, rfl⟩
                go_wp2_with fail
                refine (kB.out _).mono ?_; rintro e w9 ⟨rfl, hk9⟩
                have S9 := Lib.hid (HU.out.on hk9)
                clear hk9 q0 q1 q2 HU
                go_wp2_with fail
                go_loopg [12, 16] n (fun gg okv iv wr => ∃ d : Nat, d + gg = n ∧ iv = .int .i64 d ∧ okv = .bool true ∧ Sn w1.heap.size w2.heap.size (w5.heap.size + 1) w5.heap.size k j c n (ft (3 + k + j + c) (3 + k + j + c) c) w wr)
                case atStart => exact ⟨0, by omega, rfl, rfl, S9.out⟩
                case round =>
                  obtain ⟨d, hdg, rfl, rfl, S⟩ := hrel
                  have HV := Lib.hid S
                  clear S S9
                  have qn := HV.out.cn
                  have qs := HV.out.cs
                  by_cases hd : d < n
                  · have qr := HV.out.cr hd
                    rw [ft_full _ _ _ (by have := hn.out; omega)] at qr
                    go_wp2
                    go_roundg (n - (d + 1))
                    case rel => exact ⟨d + 1, by omega, by go_num, rfl, HV.out⟩
                    case measure => omega
                  · obtain rfl : d = n := by omega
                    go_wp2_with fail
                    go_region_held3 (fun wx => wx.cell? ⟨w1.heap.size, 0, none⟩ = some (.int .i64 k) ∧ wx.cell? ⟨w1.heap.size, 1, none⟩ = some (.int .i64 j) ∧ wx.cell? ⟨w1.heap.size, 2, none⟩ = some (.int .i64 c) ∧ Kp [] w wx ∧ w1.heap.size < wx.heap.size)
                      (first
                        | exact pb_drew HV.out
                        | exact pb_step ‹Pb w1.heap.size k j c w _› hk9)
                      (first
                        | (go_at_call 14; refine (z1.out _).mono ?_; rintro e w' ⟨rfl, hk9⟩)
                        | (go_at_call 16; refine (z2.out _).mono ?_; rintro e w' ⟨rfl, hk9⟩)
                        | (go_at_call 9; refine (kB.out _).mono ?_; rintro e w' ⟨rfl, hk9⟩)
                        | (go_at_call 18; refine (z3.out _).mono ?_; rintro e w' ⟨rfl, hk9⟩)
                        | (go_at_call 20; refine (z4.out _).mono ?_; rintro e w' ⟨rfl, hk9⟩)
                        | (go_at_call 13; refine (wakes_is _).mono ?_; rintro e w' ⟨rfl, hk9⟩))
                    have kpz := Lib.hid (‹Pb w1.heap.size k j c w w'›).2.2.2.1
                    rename_i hHeld
                    clear hHeld hk9 qn qs HV
                    go_wp2
                    go_ret
                    exact ⟨rfl, kpz.out⟩)

/-- LayoutParts, walked. -/
theorem parts_any (W T G : Int) (w : World) : Calls Try.prog 4 #[.int .i64 W, .int .i64 T, .int .i64 G] w fun e w' => e = .returned (.bool true) ∧ Kp [] w w' := by
  by_cases h : 1 ≤ W ∧ W ≤ 4096 ∧ 1 ≤ T ∧ T ≤ 64 ∧ 0 ≤ G ∧ G ≤ 8
  · obtain ⟨w1, w2, t0, t1, g0, g1⟩ := h
    by_cases hf : W < 3 + T + G + 33
    · exact parts_none W T G 4 w (.inr rfl) (Lib.hid fun w => new_full W T G w w1 w2 t0 t1 g0 g1 hf)
    · obtain ⟨b, hb⟩ : ∃ b, blkP W T G = b := ⟨_, rfl⟩
      have b0 : 1 ≤ b := by rw [← hb]; unfold blkP; split <;> omega
      have b1 : b ≤ 64 := by rw [← hb]; unfold blkP; split <;> omega
      have b2 : 3 + T + G + 33 * b ≤ W := by rw [← hb]; unfold blkP; split <;> omega
      have b3 : b < 64 → W < 3 + T + G + 33 * b + 33 := by rw [← hb]; unfold blkP; split <;> omega
      have hN := fun w => new_ok W T G b w hb w1 w2 t0 t1 g0 g1 (by omega)
      clear hb
      obtain ⟨bn, rfl⟩ := Int.eq_ofNat_of_zero_le (show 0 ≤ b by omega)
      obtain ⟨tn, rfl⟩ := Int.eq_ofNat_of_zero_le (show 0 ≤ T by omega)
      obtain ⟨gn, rfl⟩ := Int.eq_ofNat_of_zero_le g0
      have b0' : (0 : Int) ≤ bn := by omega
      have t0' : (0 : Int) ≤ tn := by omega
      refine parts_some W tn gn tn gn bn (3 + tn + gn + 33 * bn) w rfl rfl (Lib.hid hN) ?_ ?_ ?_ ?_ ?_ ?_ ?_ ?_ ?_ (Lib.hid rfl) (by omega) (by omega) w2 (by omega) (by omega) (by omega) (by omega) (by omega)
      · exact Lib.hid fun w => (words_is tn gn bn w t0 t1 g0 g1 b0' b1).mono fun e w' ⟨he, hk⟩ => ⟨by rw [he, show (3 + tn + gn + bn + bn * 32 : Int) = ((3 + tn + gn + 33 * bn : Nat) : Int) from by omega], hk⟩
      · exact Lib.hid fun k a hk ha w => answer_is tn gn bn k a w ((rowP_in (by omega) (by omega)).trans (by omega)) t0' t1
      · exact Lib.hid fun k a hk ha w => global_is tn gn bn k a w ((rowP_in (by omega) (by omega)).trans (by omega)) t0' t1 g0 g1
      · exact Lib.hid fun k a hk ha w => entry_is tn gn bn k a w ((rowP_in (by omega) (by omega)).trans (by omega)) t0' t1 g0 g1 b0' b1
      · exact Lib.hid fun k a hk ha w => start_is tn gn bn k a w ((rowP_in (by omega) (by omega)).trans (by omega)) t0' t1 g0 g1 b0' b1
      · exact Lib.hid fun w => answer_is tn gn bn tn (-1) w (rowP_out (.inr (by omega))) t0' t1
      · exact Lib.hid fun w => global_is tn gn bn gn (-1) w (rowP_out (.inr (by omega))) t0' t1 g0 g1
      · exact Lib.hid fun w => entry_is tn gn bn bn (-1) w (rowP_out (.inr (by omega))) t0' t1 g0 g1 b0' b1
      · exact Lib.hid fun w => start_is tn gn bn (-1) (-1) w (rowP_out (.inl (by omega))) t0' t1 g0 g1 b0' b1
  · exact parts_none W T G 2 w (.inl rfl) (Lib.hid fun w => new_bad W T G w h)

end Go.Proofs.Ytppddidejljfiaa
