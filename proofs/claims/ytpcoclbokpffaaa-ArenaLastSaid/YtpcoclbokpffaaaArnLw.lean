/- ArenaLast, walked. Conditions: the acts lie where the slice leads; the number is that of a uint16. -/
import Derived.Test.YtpcoclbokpffaaaArnL
import Derived.Test.YtpcoclbokpffaaaArnOpen
import Derived.Deep.LoopGhost
import Derived.Deep.CutRange
import Derived.Deep.CutBlock
import Derived.Deep.RegionWith
import Derived.Deep.DeepCutAuto
import Derived.Deep.RegionHeld3
import Derived.Carry
namespace Go.Proofs.Ytpcoclbokpffaaa
set_option linter.unusedVariables false
set_option linter.unusedSimpArgs false
open Go.RowKit Go.Maps

structure LRel (w : World) (p r B n : Nat) (wr : World) (k : Nat) (s : St) : Prop where
  ar : Ar wr p r s
  mp : Mp wr B k s
  n : s.ws.length = n
  t : s.t ≤ k
  bel : Below w.heap.size w wr

theorem upd_other (s : St) (c y : Int) (i : Nat) (h : ¬ (i : Int) = c) : (upd s c y).ws.getD i 0 = s.ws.getD i 0 := by
  unfold upd
  split
  · rename_i hin
    have := inB_iff.1 hin
    have : c.toNat ≠ i := by omega
    simp [List.getD, this]
  · rfl

theorem was_same (s : St) (c x : Int) : was (upd s c (was s c)) x = was s x := by
  by_cases h : inB s c = true
  · rw [was_upd _ _ _ _ h]
    split
    · rename_i e; rw [e]
    · rfl
  · rw [upd_out (by simpa using h)]

/-- What is known in a round: the arena's state, the map's; the act's box; the row of the words as they were. -/
structure Env (w : World) (p r B x y : Nat) (d c v : Int) (ws0 : List Int) (w' : World) (k : Nat) (sa sm : St) : Prop where
  ar : Ar w' p r sa
  mp : Mp w' B k sm
  xb : w'.heap[x]? = some (.cells #[.int .u8 d, .int .i64 c, .int .u64 v] 34 (0, 0))
  yb : w'.heap[y]? = some (.cells (u64s ws0) 29 (0, 0))
  bel : Below w.heap.size w w'
  lt : p < x ∧ r < x ∧ B < x ∧ x < y
  ge : w.heap.size ≤ p ∧ w.heap.size ≤ r ∧ w.heap.size ≤ B

section
variable {w w' w'' : World} {p r B x y k k' : Nat} {d c v : Int} {ws0 : List Int} {sa sa' sm sm' : St}
theorem Env.arena (E : Env w p r B x y d c v ws0 w' k sa sm) (ha : Ar w'' p r sa') (hk : Kp [p, r] w' w'') : Env w p r B x y d c v ws0 w'' k sa' sm :=
  have l := E.lt
  have g := E.ge
  ⟨ha, E.mp.keep hk (by simp; exact ⟨E.mp.ne E.ar.hp, E.mp.ne E.ar.hr⟩), hk.row (by simp; omega) E.xb, hk.row (by simp; omega) E.yb, E.bel.trans (hk.below E.bel.size (by simp; omega)), l, g⟩
theorem Env.map (E : Env w p r B x y d c v ws0 w' k sa sm) (hm : Mp w'' B k' sm') (hk : Kp [B] w' w'') : Env w p r B x y d c v ws0 w'' k' sa sm' :=
  have l := E.lt
  have g := E.ge
  ⟨E.ar.keep hk (by simp; exact fun e => E.mp.ne E.ar.hp e.symm) (by simp; exact fun e => E.mp.ne E.ar.hr e.symm), hm, hk.row (by simp; omega) E.xb, hk.row (by simp; omega) E.yb, E.bel.trans (hk.below E.bel.size (by simp; omega)), l, g⟩
theorem Env.quiet (E : Env w p r B x y d c v ws0 w' k sa sm) (hk : Kp [] w' w'') : Env w p r B x y d c v ws0 w'' k sa sm :=
  ⟨E.ar.keep hk (by simp) (by simp), E.mp.keep hk (by simp), hk.row (by simp) E.xb, hk.row (by simp) E.yb, E.bel.trans (hk.below E.bel.size (by simp)), E.lt, E.ge⟩
theorem Env.x0 (E : Env w p r B x y d c v ws0 w' k sa sm) : w'.cell? ⟨x, 0, none⟩ = some (.int .u8 d) := by rw [cell_of_row E.xb]; rfl
theorem Env.x1 (E : Env w p r B x y d c v ws0 w' k sa sm) : w'.cell? ⟨x, 1, none⟩ = some (.int .i64 c) := by rw [cell_of_row E.xb]; rfl
theorem Env.x2 (E : Env w p r B x y d c v ws0 w' k sa sm) : w'.cell? ⟨x, 2, none⟩ = some (.int .u64 v) := by rw [cell_of_row E.xb]; rfl
end

theorem last_skip (w : World) (x : Int) (ao : Option Addr) (len cap : Nat) (hx0 : 0 ≤ x) (hx : x ≤ 65535) (h : 100 < len ∨ x < 1 ∨ 300 < x) :
    Calls Try.prog 5 #[.int .u16 x, .slice ao len cap] w fun e w' => e = .returned (.bool true) ∧ Below w.heap.size w w' := by
  by_cases h1 : 100 < len
  · go_enter Try.func5, Try.ntmps5
    go_wp2_with fail
    refine (wakes_any _).mono ?_
    rintro e w1 ⟨rfl, hb⟩
    go_wp2
    go_ret
    exact ⟨rfl, hb⟩
  · by_cases h2 : x < 1
    · go_enter Try.func5, Try.ntmps5
      go_wp2_with fail
      refine (wakes_any _).mono ?_
      rintro e w1 ⟨rfl, hb⟩
      go_wp2
      go_ret
      exact ⟨rfl, hb⟩
    · have h3 : 300 < x := by omega
      go_enter Try.func5, Try.ntmps5
      go_wp2_with fail
      refine (wakes_any _).mono ?_
      rintro e w1 ⟨rfl, hb⟩
      go_wp2
      go_ret
      exact ⟨rfl, hb⟩

set_option maxRecDepth 100000 in
set_option maxHeartbeats 20000000 in
theorem last_main (w : World) (n : Nat) (ao : Option Addr) (L : List (Int × Int × Int)) (cap : Nat) (hn1 : 1 ≤ n) (hn : n ≤ 300) (hL : L.length ≤ 100) (hA : Acts w ao L) :
    Calls Try.prog 5 #[.int .u16 n, .slice ao L.length cap] w fun e w' => e = .returned (.bool true) ∧ Below w.heap.size w w' := by
  have hmm := @run_makeMap Try.prog
  have hnew := new_good w n hn1 (by omega)
  obtain ⟨m, hm⟩ : ∃ m, m = L.length := ⟨_, rfl⟩
  rw [← hm]
  have hm100 : m ≤ 100 := by omega
  have HM : Hid (m = L.length) := hm
  clear hm hL
  go_enter Try.func5, Try.ntmps5
  go_wp2_with fail
  refine hnew.mono ?_
  rintro e w1 ⟨rfl, ha1, hk1⟩
  obtain ⟨p, hp⟩ : ∃ p, p = w.heap.size + 1 := ⟨_, rfl⟩
  obtain ⟨r, hr⟩ : ∃ r, r = w.heap.size := ⟨_, rfl⟩
  obtain ⟨B, hB⟩ : ∃ B, B = w1.heap.size := ⟨_, rfl⟩
  have R0 : LRel w p r B n (w1.alloc (.map #[] 0)) 0 (fresh n) := by
    have hk2 := (Kp.refl [] w1).alloc (.map #[] 0)
    refine ⟨hp ▸ hr ▸ ha1.keep hk2 (by simp) (by simp), ?_, by simp [fresh], by simp [fresh], (hk1.trans hk2).to_below⟩
    rw [hB]
    refine ⟨.map [], World.ownsMap_made _ _ _ _, fun x _ => ?_⟩
    have : was (fresh n) x = 0 := by
      unfold was fresh
      split <;> simp [List.getD, List.getElem?_replicate]
      split <;> rfl
    rw [this]
    rfl
  have hpw : w.heap.size ≤ p := by omega
  have hrw : w.heap.size ≤ r := by omega
  have hBw : w.heap.size ≤ B := by rw [hB]; exact hk1.size
  rw [← hp]
  clear hp hr ha1 hk1 hnew
  go_wp2_with fail
  rw [← hB]
  clear hB
  generalize w1.alloc (.map #[] 0) = w2 at R0 ⊢
  clear w1
  go_loopg [8] m (fun g i wr => ∃ k s, k + g = m ∧ i = .int .i64 (k : Int) ∧ LRel w p r B n wr k s)
  case atStart => exact ⟨0, fresh n, by omega, rfl, R0⟩
  case round =>
    clear R0
    obtain ⟨k, s, hkg, rfl, R⟩ := hrel
    have hRn := R.n
    have hbelr := R.bel
    have hRt := R.t
    by_cases hkl : k < m
    · have hLk : k < L.length := HM.out ▸ hkl
      obtain ⟨b, o, hao, hbw, q0, q1, q2, f0, f1, f2⟩ := hA k _ (List.getElem?_eq_getElem hLk)
      subst hao
      generalize L[k].1 = d at q0 f0
      generalize L[k].2.1 = c at q1 f1
      generalize L[k].2.2 = v at q2 f2
      have g0 := (hbelr.cell (p := ⟨b, o + k * 3, none⟩) hbw).trans q0
      have g1 := (hbelr.cell (p := ⟨b, o + k * 3 + 1, none⟩) hbw).trans q1
      have g2 := (hbelr.cell (p := ⟨b, o + k * 3 + 2, none⟩) hbw).trans q2
      clear q0 q1 q2
      have hka := (Kp.refl [] wr).alloc (.cells #[.int .u8 d, .int .i64 c, .int .u64 v] 34)
      have hxa := heap_alloc_new wr (.cells #[.int .u8 d, .int .i64 c, .int .u64 v] 34)
      have hra := R.ar.keep hka (by simp) (by simp)
      have hma := R.mp.keep hka (by simp)
      have hall := all_any _ p r s hra (by omega) (by omega)
      rw [hRn] at hall
      obtain ⟨x, hx⟩ : ∃ x, x = wr.heap.size := ⟨_, rfl⟩
      obtain ⟨y, hy⟩ : ∃ y, y = (wr.alloc (.cells #[.int .u8 d, .int .i64 c, .int .u64 v] 34)).heap.size := ⟨_, rfl⟩
      have hxw : w.heap.size ≤ x := by rw [hx]; exact hbelr.size
      have hrl := R.ar.lt
      have hml := R.mp.lt
      have hyx : y = x + 1 := by rw [hy, hx]; simp
      have HX : Hid (p < x ∧ r < x ∧ B < x ∧ x < y) := (by omega : p < x ∧ r < x ∧ B < x ∧ x < y)
      have hbela : Below w.heap.size w (wr.alloc (.cells #[.int .u8 d, .int .i64 c, .int .u64 v] 34)) := hbelr.alloc hbelr.size _
      rw [← hy] at hall
      rw [← hx] at hxa
      have HY := Lib.hid hy
      clear hmm hyx hy hrl hml
      go_upto_region 11 with (fail)
      go_cut [10] from 40 to 150 (fun t w' => wr.alloc (.cells #[.int .u8 d, .int .i64 c, .int .u64 v] 34) = w' ∧ t = .bool (inB s c))
      case first =>
        clear hall hra hma hka R hbelr HM hA
        by_cases hin : inB s c = true
        · obtain ⟨hc0, hc1⟩ := inB_iff.1 hin
          rw [hRn] at hc1
          have HI := Lib.hid hin
          clear hin
          go_wp2_with fail
          go_meet
          case rel => exact ⟨rfl, by rw [HI.out]⟩
        · have hin' : inB s c = false := by simpa using hin
          have hout : c < 0 ∨ (0 ≤ c ∧ (n : Int) ≤ c) := by
            rw [← hRn]
            by_cases q : 0 ≤ c
            · exact .inr ⟨q, Int.not_lt.1 fun h1 => hin (inB_iff.2 ⟨q, h1⟩)⟩
            · exact .inl (by omega)
          have HI := Lib.hid hin'
          clear hin hin'
          rcases hout with hout | ⟨hout0, hout1⟩
          · go_wp2_with fail
            go_meet
            case rel => exact ⟨rfl, by rw [HI.out]⟩
          · go_wp2_with fail
            go_meet
            case rel => exact ⟨rfl, by rw [HI.out, decide_eq_false (by omega)]⟩
      case rest =>
        obtain ⟨rfl, rfl⟩ := hcut
        go_wp2_with fail
        refine hall.mono ?_
        rintro e w4 ⟨rfl, hrow, hk4⟩
        have E4 : Env w p r B x y d c v s.ws w4 k s s := ⟨hra.keep hk4 (by simp) (by simp), hma.keep hk4 (by simp), hk4.row (by simp) hxa, hrow, hbela.trans (hk4.below hbela.size (by simp)), HX.out, hpw, hrw, hBw⟩
        rw [← hx]
        clear hx hra hma hxa hbela hrow hk4 hall g0 g1 g2 hka R
        have hx0 := E4.x0
        go_upto_block 2 with (fail)
        go_cut [10] from 40 to 150 (fun _ w' => ∃ yv, Env w p r B x y d c v s.ws w' (k + 1) (upd s c yv) (upd s c yv))
        case first =>
          -- FIRST
          have hx1 := E4.x1
          have hx2 := E4.x2
          have hw4 : s.ws.length ≤ 4096 := by omega
          have hw5 : s.t ≤ 4096 := by omega
          have hlk := E4.mp.look f1
          by_cases d0 : d = 0
          · have Ed := E4.quiet ((Kp.refl [] w4).drew)
            have hlkd := Ed.mp.look f1
            clear hlk
            go_wp2_with fail
            go_region_with (go_at_call 10; refine (read_any _ p r s c Ed.ar hw4 hw5).mono ?_; rintro e w5 ⟨rfl, ha5, hk5⟩; have E5 := Ed.arena ha5 hk5; have hlk5 := E5.mp.look f1; have hx5 := E5.x1; have E6 := E5.map (E5.mp.same (was_same s c)) (Kp.refl _ _))
            all_goals (go_wp2_with fail; go_meet)
            all_goals exact ⟨_, by assumption⟩
          · by_cases d1 : d = 1
            · go_wp2_with fail
              refine (write_any _ p r s c v E4.ar hw4 hw5).mono ?_
              rintro e w5 ⟨rfl, ha5, hk5⟩
              have E5 := E4.arena ha5 hk5
              have hy1 := E5.x1
              have hy2 := E5.x2
              clear E4 hx0 hx1 hx2 hlk hk5 ha5
              by_cases hin : inB s c = true
              · obtain ⟨w6, hrun, hm6, hk6⟩ := E5.mp.put f1 f2 hin (by omega)
                have E6 := E5.map hm6 hk6
                have HI := Lib.hid hin
                clear E5 hm6 hk6
                go_wp2_with fail
                go_meet
                case rel => exact ⟨v, E6⟩
              · have hin' : inB s c = false := by simpa using hin
                have hm6 := E5.mp.same (s' := upd s c v) (fun x => by rw [upd_out hin'])
                have E6 : Env w p r B x y d c v s.ws w5 (k + 1) (upd s c v) (upd s c v) := E5.map hm6 (Kp.refl _ _)
                clear E5 hm6 hin
                go_wp2_with fail
                go_meet
                case rel => exact ⟨v, E6⟩
            · have hmf : ∀ (fn : Fn) (first cap : Array Value) (w : World), (Instr.makeFunc fn first cap).run Try.prog w = .ok (.func fn first cap) w := fun _ _ _ _ => rfl
              have hlt := E4.lt
              have hu := upd_pure w4 p r s c 19 #[.pointer (some ⟨x, 0, none⟩)] _ E4.ar hw4 hw5 (fun _ _ => rfl) (fun _ w' hk' => f19 (was s c) d c v x w' (hk'.row (by simp; omega) E4.xb))
              clear hlt
              go_wp2_with fail
              refine hu.mono ?_
              rintro e w5 ⟨rfl, ha5, hk5⟩
              have E5 := E4.arena ha5 hk5
              have hy1 := E5.x1
              have hy2 := E5.x2
              have hlk5 := E5.mp.look f1
              have hwf := wf_bits BinOp.xor .u64 (was s c) v
              clear E4 hx0 hx1 hx2 hlk hk5 ha5 hu
              by_cases hin : inB s c = true
              · obtain ⟨w6, hrun, hm6, hk6⟩ := E5.mp.put f1 hwf hin (by omega)
                have E6 := E5.map hm6 hk6
                clear E5 hm6 hk6
                go_wp2_with fail
                go_meet
                case rel => exact ⟨_, E6⟩
              · have hin' : inB s c = false := by simpa using hin
                have hm6 := E5.mp.same (s' := upd s c (bits BinOp.xor .u64 (was s c) v)) (fun x => by rw [upd_out hin'])
                have E6 : Env w p r B x y d c v s.ws w5 (k + 1) (upd s c (bits BinOp.xor .u64 (was s c) v)) (upd s c (bits BinOp.xor .u64 (was s c) v)) := E5.map hm6 (Kp.refl _ _)
                clear E5 hm6 hin
                go_wp2_with fail
                go_meet
                case rel => exact ⟨_, E6⟩
          -- ENDFIRST
        case rest =>
          obtain ⟨yv, E⟩ := hcut
          have hlen := upd_len s c yv
          have htt := upd_t s c yv
          have hall := all_any wc p r (upd s c yv) E.ar (by omega) (by omega)
          rw [hlen, hRn] at hall
          obtain ⟨z, hz⟩ : ∃ z, z = wc.heap.size := ⟨_, rfl⟩
          rw [← hz] at hall
          have hyz : y < z := by rw [hz]; exact lt_of_block E.yb
          have HZ := Lib.hid hyz
          clear hz hyz
          go_wp2_with fail
          refine hall.mono ?_
          rintro e w7 ⟨rfl, hz7, hk7⟩
          have E7 := E.quiet hk7
          clear E hall hk7
          go_wp2_with fail
          have hwl : ∀ i : Nat, i < n → (Lit.int .i64 (i : Int)).wf = true := fun i hi => WalkArith.wf_i64 ⟨by omega, by omega⟩
          go_loopg [14] n (fun g j wi => ∃ i : Nat, i + g = n ∧ j = .int .i64 (i : Int) ∧ Env w p r B x y d c v s.ws wi (k + 1) (upd s c yv) (upd s c yv) ∧ wi.heap[z]? = some (.cells (u64s (upd s c yv).ws) 29 (0, 0)))
          case atStart => exact ⟨0, by omega, rfl, E7, hz7⟩
          case round =>
            clear E7 hz7
            obtain ⟨i, hig, rfl, Ei, hzi⟩ := hrel
            by_cases hin : i < n
            · have hiS : i < (upd s c yv).ws.length := by omega
              have hkn : ∀ j, Kp [] wr (wr.drewN j) := fun j => ⟨rfl, rfl, rfl, Nat.le_refl _, fun _ _ _ => rfl⟩
              have hlk := fun j => (Ei.mp.keep (hkn j) (by simp)).look (hwl i hin)
              have hcz : wr.cell? ⟨z, i, none⟩ = _ := (cell_of_row hzi i).trans (u64s_get _ _ hiS)
              have hcy : wr.cell? ⟨y, i, none⟩ = _ := (cell_of_row Ei.yb i).trans (u64s_get _ _ (by omega))
              have hcx := Ei.x1
              have hwas : was (upd s c yv) (i : Int) = (upd s c yv).ws.getD i 0 := by rw [was_in (inB_iff.2 ⟨by omega, by omega⟩)]; simp
              simp only [hwas] at hlk
              clear hwas
              have EI := Lib.hid (And.intro Ei hzi)
              have hig' := Lib.hid hig
              clear Ei hzi hig
              by_cases hic : (i : Int) = c
              · subst hic
                clear hcy
                generalize (upd s (i : Int) yv).ws.getD i 0 = a at hlk hcz
                clear hiS
                go_wp2_with fail
                go_quiet (fail)
                have EJ := Lib.hid (And.intro (EI.out.1.quiet (hkn nq)) EI.out.2)
                clear hlk hcz hcx hkn EI
                go_wp2_with fail
                go_roundg (n - (i + 1))
                case measure => have := hig'.out; omega
                case rel => exact ⟨i + 1, by omega, by go_num, EJ.out.1, EJ.out.2⟩
              · have heq := upd_other s c yv i hic
                rw [heq] at hcz
                simp only [heq] at hlk
                generalize s.ws.getD i 0 = a at hlk hcz hcy
                have hq : ((i : Int) == c) = false := by simp [hic]
                have hq2 : decide ((i : Int) = c) = false := by simp [hic]
                clear heq hiS
                go_wp2_with fail
                go_quiet (fail)
                have EJ := Lib.hid (And.intro (EI.out.1.quiet (hkn nq)) EI.out.2)
                clear hlk hcz hcy hcx hkn EI hq hq2 hic
                go_wp2_with fail
                go_roundg (n - (i + 1))
                case measure => have := hig'.out; omega
                case rel => exact ⟨i + 1, by omega, by go_num, EJ.out.1, EJ.out.2⟩
            · have hnin : ¬ ((i : Int) < (n : Int)) := by omega
              have EI := Lib.hid Ei
              clear Ei hzi hig
              go_wp2_with fail
              go_roundg (m - (k + 1))
              case measure => omega
              case rel => exact ⟨k + 1, upd s c yv, by omega, by go_num, EI.out.ar, EI.out.mp, by omega, by omega, EI.out.bel⟩
    · have hkm : ¬ ((k : Int) < (m : Int)) := by omega
      clear hmm
      have hbel := Lib.hid R.bel
      clear R
      go_wp2_with fail
      refine (wakes_any _).mono ?_
      rintro e w4 ⟨rfl, hb4⟩
      go_wp2
      go_ret
      exact ⟨rfl, hbel.out.trans (hb4.mono hbel.out.size)⟩

end Go.Proofs.Ytpcoclbokpffaaa
