/- Package publish: what its laws build: Words, Made, Same, Place. Conditions: as each theorem states them. -/
import Derived.Test.YtdnlddjgjceogaaPbC
import Derived.Test.YtdnlddjgjceogaaPbO
namespace Go.Proofs.Ytdnlddjgjceogaa
set_option linter.unusedVariables false
set_option linter.unusedSimpArgs false
set_option maxRecDepth 100000
open Go.RowKit

/-- 'append(v, news...)', its run. -/
theorem run_appB {T t ty : TypeId} {sz base bytes : Nat} {w : World} {v : Value} {n : Nat} {xs : List Value} (ht : Try.prog.underlying t = some (.slice T)) (hi : ∃ i z, Try.prog.info? T = some i ∧ i.zero = some z ∧ i.size = sz ∧ i.bytes = bytes ∧ z.cells.size = sz) (hsz : 0 < sz)
    (h : Rw T sz base w v n xs) (hbase : base ≤ w.heap.size) (ad : Addr) (m c : Nat) (news : List Value) (hl : news.length = m * sz) (hnews : ∀ j u, news[j]? = some u → w.cell? (ad.add j) = some u) (h1 : ∀ u ∈ news, u.oneCell' = true) (hm : 0 < m)
    (hn : n + m ≤ 10000000) (hb : bytes ≤ 100) :
    ∃ g cap w', (Builtin.append_ #[t, t] ty #[v, .slice (some ad) m c]).run Try.prog w = .ok (.slice (some ⟨g, 0, none⟩) (n + m) cap) w' ∧ Rw T sz base w' (.slice (some ⟨g, 0, none⟩) (n + m) cap) (n + m) (xs ++ news) ∧ Kp (blk v) w w' ∧ (g ∈ blk v ∨ g = w.heap.size) := by
  obtain ⟨i, z, e1, e2, e3, e4, e5⟩ := hi
  have h63 : n + m ≤ maxLen := by unfold maxLen; omega
  have hby : (n + m) * bytes ≤ 140737488355328 := by
    have : (n + m) * bytes ≤ 10000000 * 100 := Nat.mul_le_mul hn hb
    omega
  obtain ⟨g, cap, w', hr, h2, h3, h4, _⟩ := run_append_lies (P := Try.prog) w t ty base T i z sz bytes ht e1 e2 e3 e4 e5 hsz v n xs h.own ad m c news hl hnews h1 hm h63 hby hbase _ rfl
  exact ⟨g, cap, w', hr, ⟨h2⟩, kp_of_row h3, h4.imp (fun e => by unfold blk; rw [e]; simp) id⟩



theorem u64_info : ∃ i z, Try.prog.info? 30 = some i ∧ i.zero = some z ∧ i.size = 1 ∧ i.bytes = 8 ∧ z.cells.size = 1 := by
  obtain ⟨i, hi, hz0, hz1, hz2⟩ := info_parts (show (Try.prog.info? 30).map (fun i => (i.zero, i.size, i.bytes)) = some (some (.int .u64 0), 1, 8) by kernel_rfl)
  exact ⟨i, _, hi, hz0, hz1, hz2, rfl⟩
/-- One word more. -/
theorem app_one {W0 w : World} {base n : Nat} {v : Value} {xs : List Value} (h : Rw 30 1 base w v n xs) (k0 : Kp [] W0 w) (hb : base = W0.heap.size) (y : Int) (hn : n ≤ 9000000) :
    ∃ ao cap w', (Builtin.append_ #[23, 23] 23 #[v, .slice (some ⟨w.heap.size, 0, none⟩) 1 1]).run Try.prog (w.alloc (.cells #[.int .u64 y] 30)) = .ok (.slice ao (n + 1) cap) w' ∧ Rw 30 1 base w' (.slice ao (n + 1) cap) (n + 1) (xs ++ [.int .u64 y]) ∧ Kp [] W0 w' := by
  have ka : Kp [] w (w.alloc (.cells #[.int .u64 y] 30)) := (Kp.refl _ _).alloc _
  obtain ⟨g, cap, w', h1, h2, h3, _⟩ := run_appB (T := 30) (t := 23) (ty := 23) (sz := 1) (bytes := 8) Try.underlying23 u64_info (by decide) (h.keep0 ka) (by rw [hb]; exact Nat.le_trans k0.size ka.size) ⟨w.heap.size, 0, none⟩ 1 1 [.int .u64 y] rfl
    (fun j u hj => by
      rw [Addr.add_lit, Nat.zero_add]
      rcases j with _ | j
      · obtain rfl := Option.some.inj hj
        exact cell_of_row (heap_alloc_new w _) 0
      · simp at hj) (by simp [Value.oneCell']) (by decide) (by omega) (by decide)
  exact ⟨_, cap, w', h1, h2, (h.keep0 ka).old hb (k0.trans ka) h3⟩

theorem place_is (n : Int) (w : World) (h0 : -1000000 ≤ n) (h1 : n ≤ 1000000) : Calls Try.prog 8 #[.int .i64 n] w fun e w' => e = .returned (.int .i64 (4 * n - 3)) ∧ w = w' := by
  go_enter Try.func8, Try.ntmps8
  go_wp2
  go_ret
  exact ⟨rfl, rfl⟩

/-- May a thing be? -/
def mayT (x : Tg) : Bool := mayB x.k x.c x.o x.r x.s x.g x.m && decide (x.s ≤ 3)
/-- A field's word. -/
def refV (n : Nat) (f : Int) : Int := if 0 < f ∧ f ≤ n then 4 * f - 3 else if 0 < f then 1000 + f else 0
def Tg.f (x : Tg) (q : Nat) : Int := if q = 0 then x.f0 else if q = 1 then x.f1 else x.f2
def thW (n : Nat) (x : Tg) : List Int := [wordI x.k x.c x.o x.r x.s x.g x.m, refV n x.f0, refV n x.f1, refV n x.f2]
def wordsT (n : Nat) (L : List Tg) : List Int := 0 :: L.flatMap (thW n)
theorem wordsT_len (n : Nat) (L : List Tg) : (wordsT n L).length = 4 * L.length + 1 := by
  unfold wordsT
  induction L with
  | nil => rfl
  | cons x L ih => simp only [List.flatMap_cons, List.length_cons, List.length_append, thW] at ih ⊢; simp only [List.length_nil]; omega
theorem wordsT_succ (n : Nat) (L : List Tg) (i : Nat) (x : Tg) (h : L[i]? = some x) : wordsT n (L.take (i + 1)) = wordsT n (L.take i) ++ thW n x := by
  rw [List.take_add_one, h]
  simp [wordsT, List.flatMap_append]
def u64l (ws : List Int) : List Value := ws.map (Value.int .u64)
theorem thW_take (n : Nat) (x : Tg) (q : Nat) (hq : q < 3) : (thW n x).take (q + 2) = (thW n x).take (q + 1) ++ [refV n (x.f q)] := by
  rcases (by omega : q = 0 ∨ q = 1 ∨ q = 2) with rfl | rfl | rfl <;> rfl
theorem Tg.f_ok {x : Tg} (h : x.ok) (q : Nat) : 0 ≤ x.f q ∧ x.f q ≤ 255 := by
  obtain ⟨_, _, _, _, _, _, _, _, _, _, a, b, c, d, e, f⟩ := h
  unfold Tg.f
  split
  · exact ⟨a, b⟩
  · split
    · exact ⟨c, d⟩
    · exact ⟨e, f⟩
theorem Tg.cs_f (x : Tg) (q : Nat) (hq : q < 3) : x.cs[7 + q]? = some (.int .u8 (x.f q)) := by
  rcases (by omega : q = 0 ∨ q = 1 ∨ q = 2) with rfl | rfl | rfl <;> rfl

theorem rmay_k (k c o r s : Int) (g m q : Bool) (w : World) (hr : 0 ≤ r) (h : mayB k c o r s g m = q) : Calls Try.prog 13 #[.agg (hc7 k c g m o r s)] w fun e w' => e = .returned (.bool q) ∧ Kp [] w w' :=
  (rmay_any k c o r s g m w hr).mono fun e w' ⟨h1, h2⟩ => ⟨by rw [h1, h], kp_of_below h2⟩
theorem rword_k (x : Tg) (y : Int) (w : World) (hx : x.ok) (h : wordI x.k x.c x.o x.r x.s x.g x.m = y) : Calls Try.prog 14 #[.agg (hc7 x.k x.c x.g x.m x.o x.r x.s)] w fun e w' => e = .returned (.int .u64 y) ∧ Kp [] w w' := by
  obtain ⟨a, b, c, d, e, f, g, h', i, j, _⟩ := hx
  exact (rword_any x.k x.c x.o x.r x.s x.g x.m w a c e g i b d f h' j).mono fun e w' ⟨h1, h2⟩ => ⟨by rw [h1, h], kp_of_below h2⟩

set_option maxHeartbeats 2000000 in
theorem words_any (w : World) (ao : Option Addr) (cap n : Nat) (L : List Tg) (hn : L.length = n) (hL : Things w ao L) (hnm : n ≤ 2000000) :
    Calls Try.prog 5 #[.slice ao n cap] w fun e w' => Kp [] w w' ∧ ((L.all mayT = true ∧ ∃ v, e = .returned (.tuple #[v, .bool true]) ∧ Rw 30 1 w.heap.size w' v (4 * n + 1) (u64l (wordsT n L))) ∨ (L.all mayT = false ∧ e = .returned (.tuple #[.slice none 0 0, .bool false]))) := by
  have HL := Lib.hid hL
  have K0 := Lib.hid ((Kp.refl [] w).alloc (.cells #[.int .u64 0] 30))
  have R0 : Hid (Rw 30 1 w.heap.size (w.alloc (.cells #[.int .u64 0] 30)) (.slice (some ⟨w.heap.size, 0, none⟩) 1 1) 1 (u64l (wordsT n []))) :=
    Lib.hid ⟨⟨rfl, .inr ⟨w.heap.size, 1, _, rfl, Nat.le_refl _, heap_alloc_new w _, Nat.le_refl _, by unfold maxLen; omega, rfl, rfl⟩⟩⟩
  clear hL
  go_enter Try.func5, Try.ntmps5
  go_wp2_with fail
  go_loopg [4, 5] n (fun g v4 v5 wr => ∃ i : Nat, ∃ ao4 cap4, i + g = n ∧ v5 = .int .i64 i ∧ v4 = .slice ao4 (4 * i + 1) cap4 ∧ Hid (Kp [] w wr ∧ Rw 30 1 w.heap.size wr (.slice ao4 (4 * i + 1) cap4) (4 * i + 1) (u64l (wordsT n (L.take i))) ∧ (L.take i).all mayT = true))
  case atStart => exact ⟨0, _, _, by omega, rfl, rfl, Lib.hid ⟨K0.out, by simpa using R0.out, by simp⟩⟩
  case round =>
    obtain ⟨i, ao4, cap4, hi, rfl, rfl, HR⟩ := hrel
    by_cases hlt : i < n
    · have hil : i < L.length := by omega
      obtain ⟨x, hx⟩ : ∃ x, L[i]? = some x := ⟨L[i], List.getElem?_eq_getElem hil⟩
      obtain ⟨hxo, b, o, rfl, hb, hc⟩ := (HL.out.keep HR.out.1) i x hx
      have d0 := hc 0 _ rfl
      have d1 := hc 1 _ rfl
      have d2 := hc 2 _ rfl
      have d3 := hc 3 _ rfl
      have d4 := hc 4 _ rfl
      have d5 := hc 5 _ rfl
      have d6 := hc 6 _ rfl
      simp only [Nat.add_zero] at d0
      have hall : (L.take (i + 1)).all mayT = ((L.take i).all mayT && mayT x) := by rw [List.take_add_one, hx]; simp
      have HX := Lib.hid (And.intro hx (And.intro hxo hall))
      have HC := Lib.hid hc
      have hr0 : 0 ≤ x.r := hxo.2.2.2.2.2.2.1
      have hs0 : 0 ≤ x.s := hxo.2.2.2.2.2.2.2.2.1
      clear hc hall hx hxo hil
      by_cases hm : mayB x.k x.c x.o x.r x.s x.g x.m = true
      · have HMy := Lib.hid (fun w => rmay_k x.k x.c x.o x.r x.s x.g x.m true w hr0 hm)
        have HMb := Lib.hid hm
        clear hm
        by_cases hs : x.s ≤ 3
        · have HWd := Lib.hid (fun w => rword_k x (wordI x.k x.c x.o x.r x.s x.g x.m) w HX.out.2.1 rfl)
          have hd3 : decide (3 < x.s) = false := by simp; omega
          obtain ⟨y, hy⟩ : ∃ y, wordI x.k x.c x.o x.r x.s x.g x.m = y := ⟨_, rfl⟩
          rw [hy] at HWd
          have HY := Lib.hid hy
          clear hy
          go_upto_region 6 with (fail)
          have K5 := Lib.hid (HR.out.1.alloc (.cells (hc7 x.k x.c x.g x.m x.o x.r x.s) 40))
          have HB5 : Hid ((wr.alloc (.cells (hc7 x.k x.c x.g x.m x.o x.r x.s) 40)).heap[wr.heap.size]? = some (.cells (hc7 x.k x.c x.g x.m x.o x.r x.s) 40 (0, 0))) := Lib.hid (heap_alloc_new _ _)
          have R5 := Lib.hid (HR.out.2.1.keep0 ((Kp.refl [] wr).alloc (.cells (hc7 x.k x.c x.g x.m x.o x.r x.s) 40)))
          have HAL := Lib.hid HR.out.2.2
          clear d0 d1 d2 d3 d4 d5 d6 HR HC hb
          go_wp2_with fail
          refine (HMy.out _).mono ?_
          rintro e w6 ⟨rfl, hk6⟩
          have HB2 := Lib.hid (hk6.row (by simp) HB5.out)
          have K6 := Lib.hid (K5.out.trans hk6)
          have R6 := Lib.hid (R5.out.keep0 hk6)
          clear hk6 HB5 K5 R5 HMy
          have e0 := (cell_of_row HB2.out 0).trans (show _ = some (.int .u8 x.k) from rfl)
          have e1 := (cell_of_row HB2.out 1).trans (show _ = some (.int .u8 x.c) from rfl)
          have e2 := (cell_of_row HB2.out 2).trans (show _ = some (.bool x.g) from rfl)
          have e3 := (cell_of_row HB2.out 3).trans (show _ = some (.bool x.m) from rfl)
          have e4 := (cell_of_row HB2.out 4).trans (show _ = some (.int .u8 x.o) from rfl)
          have e5 := (cell_of_row HB2.out 5).trans (show _ = some (.int .u8 x.r) from rfl)
          have e6 := (cell_of_row HB2.out 6).trans (show _ = some (.int .u8 x.s) from rfl)
          go_wp2_with fail
          refine (HWd.out _).mono ?_
          rintro e w7 ⟨rfl, hk7⟩
          obtain ⟨ao7, cap7, w7', hrun7, hrw7, hk7'⟩ := app_one (W0 := w) (R6.out.keep0 hk7) (K6.out.trans hk7) rfl y (by omega)
          have HRun := Lib.hid hrun7
          have K7 := Lib.hid hk7'
          have e7 : u64l (wordsT n (L.take i)) ++ [.int .u64 y] = u64l (wordsT n (L.take i) ++ (thW n x).take 1) := by simp [u64l, thW, HY.out]
          rw [e7] at hrw7
          have R7 := Lib.hid hrw7
          clear hrun7 hrw7 hk7' hk7 e7 e0 e1 e2 e3 e4 e5 e6 K6 R6 HB2 HWd
          go_wp2_with (at_builtin; refine wpList_append_eq rfl (.tmp 30) (.tmp 33) 23 rfl _ _ _ rfl rfl HRun.out ?_)
          go_loopg [4, 7] 3 (fun gq v4 v7 wq => ∃ q : Nat, ∃ ao5 cap5, q + gq = 3 ∧ v7 = .int .i64 q ∧ v4 = .slice ao5 (4 * i + 1 + 1 + q) cap5 ∧ Hid (Kp [] w wq ∧ Rw 30 1 w.heap.size wq (.slice ao5 (4 * i + 1 + 1 + q) cap5) (4 * i + 1 + 1 + q) (u64l (wordsT n (L.take i) ++ (thW n x).take (q + 1)))))
          case atStart => exact ⟨0, _, _, by omega, rfl, rfl, Lib.hid ⟨K7.out, R7.out⟩⟩
          case round =>
            obtain ⟨q, ao5, cap5, hq, rfl, rfl, HQ⟩ := hrel
            by_cases hq3 : q < 3
            · obtain ⟨_, b', o', hbo, hb', hc'⟩ := (HL.out.keep HQ.out.1) i x HX.out.1
              obtain ⟨rfl, rfl⟩ : b = b' ∧ o = o' := by
                have := Option.some.inj hbo
                exact ⟨congrArg Addr.block this, congrArg Addr.off this⟩
              have df := hc' (7 + q) _ (x.cs_f q hq3)
              have df2 : wr.cell? ⟨b, o + i * 10 + 7 + q, none⟩ = some (.int .u8 (x.f q)) := by rw [← df, Nat.add_assoc (o + i * 10)]
              obtain ⟨f0, f1⟩ := Tg.f_ok HX.out.2.1 q
              have htq : u64l (wordsT n (L.take i) ++ (thW n x).take (q + 1 + 1)) = u64l (wordsT n (L.take i) ++ (thW n x).take (q + 1)) ++ [.int .u64 (refV n (x.f q))] := by rw [show q + 1 + 1 = q + 2 from rfl, thW_take n x q hq3]; simp [u64l]
              generalize x.f q = z at *
              clear df hc' hbo hb'
              by_cases hz : z = 0
              · subst hz
                have HTQ := Lib.hid (htq.trans (by rw [show refV n 0 = 0 from rfl]))
                clear htq
                have HPL := Lib.hid (place_is 0 wr (by omega) (by omega))
                obtain ⟨ao8, cap8, w8, hrun8, hrw8, hk8⟩ := app_one (W0 := w) HQ.out.2 HQ.out.1 rfl 0 (by omega)
                have HRun := Lib.hid hrun8
                have HR8 := Lib.hid (And.intro hrw8 hk8)
                clear hrun8 hrw8 hk8
                go_wp2_with (first | (go_at_call 8; refine HPL.out.mono ?_; rintro e wp ⟨rfl, rfl⟩) | (at_builtin; refine wpList_append_eq rfl (.tmp 63) (.tmp 65) 23 rfl _ _ _ rfl rfl HRun.out ?_))
                go_roundg (3 - (q + 1))
                exact ⟨q + 1, _, _, by omega, rfl, by first | rfl | (congr 1), Lib.hid ⟨HR8.out.2, by rw [HTQ.out]; exact HR8.out.1⟩⟩
                omega
              · have hz0 : 0 < z := by omega
                by_cases hzn : z ≤ n
                · have HTQ := Lib.hid (htq.trans (by rw [show refV n z = 4 * z - 3 from by simp [refV, hz0, hzn]]))
                  have HPL := Lib.hid (place_is z wr (by omega) (by omega))
                  have hwz : IntKind.u64.wrap (4 * z - 3) = 4 * z - 3 := by rw [IntKind.wrap_u64, Int.emod_eq_of_lt (by omega) (by omega)]
                  clear htq
                  obtain ⟨ao8, cap8, w8, hrun8, hrw8, hk8⟩ := app_one (W0 := w) HQ.out.2 HQ.out.1 rfl (4 * z - 3) (by omega)
                  have HRun := Lib.hid hrun8
                  have HR8 := Lib.hid (And.intro hrw8 hk8)
                  clear hrun8 hrw8 hk8
                  go_wp2_with (first | (go_at_call 8; refine HPL.out.mono ?_; rintro e wp ⟨rfl, rfl⟩) | (at_builtin; refine wpList_append_eq rfl (.tmp 63) (.tmp 65) 23 rfl _ _ _ rfl rfl HRun.out ?_))
                  go_roundg (3 - (q + 1))
                  exact ⟨q + 1, _, _, by omega, rfl, by first | rfl | (congr 1), Lib.hid ⟨HR8.out.2, by rw [HTQ.out]; exact HR8.out.1⟩⟩
                  omega
                · have HTQ := Lib.hid (htq.trans (by rw [show refV n z = 1000 + z from by simp [refV, hz0]; omega]))
                  have HPL := Lib.hid (place_is z wr (by omega) (by omega))
                  have hwz : IntKind.u64.wrap (1000 + z) = 1000 + z := by rw [IntKind.wrap_u64, Int.emod_eq_of_lt (by omega) (by omega)]
                  clear htq
                  obtain ⟨ao8, cap8, w8, hrun8, hrw8, hk8⟩ := app_one (W0 := w) HQ.out.2 HQ.out.1 rfl (1000 + z) (by omega)
                  have HRun := Lib.hid hrun8
                  have HR8 := Lib.hid (And.intro hrw8 hk8)
                  clear hrun8 hrw8 hk8
                  go_wp2_with (first | (go_at_call 8; refine HPL.out.mono ?_; rintro e wp ⟨rfl, rfl⟩) | (at_builtin; refine wpList_append_eq rfl (.tmp 63) (.tmp 65) 23 rfl _ _ _ rfl rfl HRun.out ?_))
                  go_roundg (3 - (q + 1))
                  exact ⟨q + 1, _, _, by omega, rfl, by first | rfl | (congr 1), Lib.hid ⟨HR8.out.2, by rw [HTQ.out]; exact HR8.out.1⟩⟩
                  omega
            · obtain rfl : q = 3 := by omega
              go_wp2_with fail
              go_roundg (n - (i + 1))
              exact ⟨i + 1, ao5, cap5, by omega, rfl, by congr 1, Lib.hid ⟨HQ.out.1, by rw [wordsT_succ n L i x HX.out.1]; exact HQ.out.2, by rw [HX.out.2.2, HAL.out, mayT, HMb.out]; simpa using hs⟩⟩
              omega
        · have hd3 : decide (3 < x.s) = true := by simp; omega
          have hs4 : 3 < x.s := by omega
          have HNO : Hid (L.all mayT = false) := Lib.hid (by
            rw [List.all_eq_false]
            exact ⟨x, List.mem_of_getElem? HX.out.1, by simp [mayT, hs]⟩)
          have HB5 : Hid ((wr.alloc (.cells (hc7 x.k x.c x.g x.m x.o x.r x.s) 40)).heap[wr.heap.size]? = some (.cells (hc7 x.k x.c x.g x.m x.o x.r x.s) 40 (0, 0))) := Lib.hid (heap_alloc_new _ _)
          have K5 := Lib.hid (HR.out.1.alloc (.cells (hc7 x.k x.c x.g x.m x.o x.r x.s) 40))
          go_upto_region 6 with (fail)
          clear d0 d1 d2 d3 d4 d5 d6 HC hb HR
          go_wp2_with fail
          refine (HMy.out _).mono ?_
          rintro e w6 ⟨rfl, hk6⟩
          have HB2 := Lib.hid (hk6.row (by simp) HB5.out)
          have K6 := Lib.hid (K5.out.trans hk6)
          clear hk6 HB5 K5 HMy
          have e6 := (cell_of_row HB2.out 6).trans (show _ = some (.int .u8 x.s) from rfl)
          clear HB2
          go_wp2
          go_ret2
          exact ⟨K6.out, .inr ⟨HNO.out, rfl⟩⟩
      · have hm' : mayB x.k x.c x.o x.r x.s x.g x.m = false := by simpa using hm
        have HMy := Lib.hid (fun w => rmay_k x.k x.c x.o x.r x.s x.g x.m false w hr0 hm')
        have HNO : Hid (L.all mayT = false) := Lib.hid (by
          rw [List.all_eq_false]
          exact ⟨x, List.mem_of_getElem? HX.out.1, by simp [mayT, hm']⟩)
        clear hm hm'
        have HB5 : Hid ((wr.alloc (.cells (hc7 x.k x.c x.g x.m x.o x.r x.s) 40)).heap[wr.heap.size]? = some (.cells (hc7 x.k x.c x.g x.m x.o x.r x.s) 40 (0, 0))) := Lib.hid (heap_alloc_new _ _)
        have K5 := Lib.hid (HR.out.1.alloc (.cells (hc7 x.k x.c x.g x.m x.o x.r x.s) 40))
        go_upto_region 6 with (fail)
        clear d0 d1 d2 d3 d4 d5 d6 HC hb HR
        go_wp2_with fail
        refine (HMy.out _).mono ?_
        rintro e w6 ⟨rfl, hk6⟩
        have HB2 := Lib.hid (hk6.row (by simp) HB5.out)
        have K6 := Lib.hid (K5.out.trans hk6)
        clear hk6 HB5 K5 HMy
        have e6 := (cell_of_row HB2.out 6).trans (show _ = some (.int .u8 x.s) from rfl)
        clear HB2
        go_wp2
        go_ret2
        exact ⟨K6.out, .inr ⟨HNO.out, rfl⟩⟩
    · obtain rfl : i = n := by omega
      have hl : L.take i = L := List.take_of_length_le (by omega)
      rw [hl] at HR
      go_wp2_with fail
      go_ret2
      exact ⟨HR.out.1, .inl ⟨HR.out.2.2, _, rfl, HR.out.2.1⟩⟩

end Go.Proofs.Ytdnlddjgjceogaa
