/- Package publish: the walks of PublishNil, PublishTells. Conditions: as each theorem states them. -/
import Derived.Test.YtdnlddjgjceogaaPbK
namespace Go.Proofs.Ytdnlddjgjceogaa
set_option linter.unusedVariables false
set_option linter.unusedSimpArgs false
set_option maxRecDepth 100000
open Go.RowKit

theorem one_lies (w : World) (y : Int) : Wd (w.alloc (.cells #[.int .u64 y] 30)) w.heap.size 0 1 [y] :=
  ⟨by simp, fun i hi => by
    obtain rfl : i = 0 := by simpa using hi
    rw [cell_of_row (heap_alloc_new w _)]
    rfl⟩

set_option maxHeartbeats 1000000 in
theorem pnil_any (w : World) (k c : Int) : Calls Try.prog 4 #[.int .i64 k, .int .u8 c] w fun e w' => e = .returned (.bool true) ∧ Kp [] w w' := by
  have hnil := eq_nilptr
  have B0 := Lib.hid (heap_alloc_new w (.cells #[.slice none 0 0] 32))
  have K0 := Lib.hid ((Kp.refl [] w).alloc (.cells #[.slice none 0 0] 32))
  have HPN := Lib.hid (fun w v => pub_nil w k c v)
  go_enter Try.func4, Try.ntmps4
  go_upto_region 2 with (fail)
  generalize hbw : w.heap.size = bw at *
  generalize w.alloc (.cells #[.slice none 0 0] 32) = w1 at *
  have HBW := Lib.hid hbw
  clear hbw
  go_wp2_with fail
  refine (HPN.out _ _).mono ?_
  rintro e w1 ⟨rfl, rfl⟩
  have HM := Lib.hid (made_any _ w1.heap.size 0 1 1 [2] rfl (by decide) (by decide) (one_lies w1 2))
  have KM := Lib.hid ((Kp.refl [] w1).alloc (.cells #[.int .u64 2] 30))
  clear HPN
  go_wp2_with fail
  refine HM.out.mono ?_
  rintro e w2 ⟨p, r, s, rfl, ha, hs, ht, hp, hr, hk2⟩
  have k12 := KM.out.trans hk2
  have B2 := Lib.hid (k12.row (by simp) B0.out)
  have K2 := Lib.hid (K0.out.trans k12)
  have HA := Lib.hid (And.intro ha hs)
  have HPN := Lib.hid (fun w => pub_none w p 0 c)
  clear ha hs ht hp hr hk2 k12 HM KM
  go_wp2_with fail
  refine (HPN.out _).mono ?_
  rintro e w2 ⟨rfl, rfl⟩
  have cb : w2.cell? ⟨bw, 0, none⟩ = some (.slice none 0 0) := by rw [cell_of_row B2.out]; rfl
  have kS : Kp [] w2 (w2.alloc (.cells #[.int .u64 2] 30)) := (Kp.refl [] w2).alloc _
  have HSm := Lib.hid (same_true _ p r w2.heap.size 0 1 1 s [2] rfl (by decide) (by decide) (HA.out.1.keep kS (by simp) (by simp)) HA.out.2 (one_lies w2 2))
  have KS := Lib.hid (K2.out.trans kS)
  clear kS HPN HA
  go_wp2_with fail
  refine HSm.out.mono ?_
  rintro e w3 ⟨rfl, hk3⟩
  have K3 := Lib.hid (KS.out.trans hk3)
  clear hk3 KS HSm cb
  go_wp2_with fail
  refine (wakes16 _).mono ?_
  rintro e w4 ⟨rfl, hk4⟩
  have K4 := Lib.hid (K3.out.trans hk4)
  clear hk4 K3
  go_wp2_with fail
  go_ret
  exact ⟨rfl, K4.out⟩

/-- Where the law asks nothing. -/
theorem tells_skip (w : World) (ao : Option Addr) (cap n : Nat) (L : List Tg) (nn c : Int) (hn : L.length = n) (hL : Things w ao L) (hnm : n ≤ 2000000) (h : L.all mayT = false ∨ 20 < n ∨ n < 1) :
    Calls Try.prog 3 #[.slice ao n cap, .int .u8 nn, .int .u8 c] w fun e w' => e = .returned (.bool true) ∧ Kp [] w w' := by
  have HWd := Lib.hid (words_any w ao cap n L hn hL hnm)
  rcases (by
    cases hl : L.all mayT
    · exact .inl rfl
    · rw [hl] at h; exact .inr ⟨rfl, h.resolve_left (by simp)⟩ : L.all mayT = false ∨ (L.all mayT = true ∧ (20 < n ∨ n < 1))) with hl | ⟨hl, hn2⟩
  · have HL := Lib.hid hl
    clear h hl
    go_enter Try.func3, Try.ntmps3
    go_wp2_with fail
    refine HWd.out.mono ?_
    rintro e w1 ⟨hk1, hor⟩
    obtain rfl : e = .returned (.tuple #[.slice none 0 0, .bool false]) := by
      rcases hor with ⟨h, _⟩ | ⟨_, h⟩
      · rw [HL.out] at h; cases h
      · exact h
    have K1 := Lib.hid hk1
    clear hk1 hor HWd
    go_wp2_with fail
    refine (wakes16 _).mono ?_
    rintro e w4 ⟨rfl, hk4⟩
    have K4 := Lib.hid (K1.out.trans hk4)
    clear hk4 K1
    go_wp2_with fail
    go_ret
    exact ⟨rfl, K4.out⟩
  · have HL := Lib.hid hl
    clear h hl
    rcases hn2 with hn2 | hn2
    all_goals
      go_enter Try.func3, Try.ntmps3
      go_wp2_with fail
      refine HWd.out.mono ?_
      rintro e w1 ⟨hk1, hor⟩
      obtain ⟨v, rfl⟩ : ∃ v, e = .returned (.tuple #[v, .bool true]) := by
        rcases hor with ⟨_, v, h, _⟩ | ⟨h, _⟩
        · exact ⟨v, h⟩
        · rw [HL.out] at h; cases h
      have K1 := Lib.hid hk1
      clear hk1 hor HWd
      go_wp2_with fail
      refine (wakes16 _).mono ?_
      rintro e w4 ⟨rfl, hk4⟩
      have K4 := Lib.hid (K1.out.trans hk4)
      clear hk4 K1
      go_wp2_with fail
      go_ret
      exact ⟨rfl, K4.out⟩

set_option maxHeartbeats 2000000 in
theorem tells_main (w : World) (ao : Option Addr) (cap n : Nat) (L : List Tg) (nn c : Int) (hn : L.length = n) (hL : Things w ao L) (hm : L.all mayT = true) (h1 : 1 ≤ n) (h2 : n ≤ 20) (g0 : 0 ≤ nn) (g1 : nn ≤ 255) (c0 : 0 ≤ c) :
    Calls Try.prog 3 #[.slice ao n cap, .int .u8 nn, .int .u8 c] w fun e w' => e = .returned (.bool true) ∧ Kp [] w w' := by
  have HWd := Lib.hid (words_any w ao cap n L hn hL (by omega))
  have hws := wordsT_ok (n := n) (things_ok hL) hm (by omega)
  have hz := hz_words hn (by omega) (things_ok hL) hm
  have hlen := wordsT_len n L
  rw [hn] at hlen
  have hnil := eq_nilptr
  have HPL := Lib.hid (fun w => place_is nn w (by omega) (by omega))
  have HL := Lib.hid hm
  have HX := Lib.hid (And.intro hws (And.intro hz hlen))
  clear hL hm hws hz
  obtain ⟨N, hN⟩ : ∃ N, 4 * n + 1 = N := ⟨_, rfl⟩
  rw [hN] at hlen HX HWd
  have HNN := Lib.hid (show 1 ≤ N ∧ N ≤ 81 by omega)
  clear hN hlen hn
  generalize wordsT n L = ws at *
  go_enter Try.func3, Try.ntmps3
  go_wp2_with fail
  refine HWd.out.mono ?_
  rintro e w1 ⟨hk1, hor⟩
  obtain ⟨v, rfl, hrw⟩ : ∃ v, e = .returned (.tuple #[v, .bool true]) ∧ Rw 30 1 w.heap.size w1 v N (u64l ws) := by
    rcases hor with ⟨_, h⟩ | ⟨h, _⟩
    · exact h
    · rw [HL.out] at h; cases h
  obtain ⟨b2, cap2, rfl, hb2, hn2, hwd2⟩ := Wd.of_rw hrw (by have := HNN.out; omega)
  have HM := Lib.hid (made_any w1 b2 0 cap2 N ws hn2.symm (by have := HNN.out; omega) (by have := HNN.out; omega) hwd2)
  have HWD := Lib.hid hwd2
  have K1 := Lib.hid hk1
  clear hor hrw hk1 hb2 hn2 hwd2 HWd
  go_wp2_with fail
  refine HM.out.mono ?_
  rintro e w2 ⟨p, r, s, rfl, ha, hs, ht, hp, hr, hk2⟩
  have K2 := Lib.hid (K1.out.trans hk2)
  have HW2 := Lib.hid (HWD.out.keep hk2 (by simp))
  have HPR := Lib.hid (And.intro (Nat.le_trans K1.out.size hp) (Nat.le_trans K1.out.size hr))
  have HD := Lib.hid (show b2 < p ∧ b2 < r ∧ b2 < w2.heap.size from ⟨Nat.lt_of_lt_of_le HWD.out.lt hp, Nat.lt_of_lt_of_le HWD.out.lt hr, Nat.lt_of_lt_of_le HWD.out.lt hk2.size⟩)
  have HA := Lib.hid (And.intro ha (And.intro hs ht))
  clear ha hs ht hp hr hk2 HM HWD
  go_wp2_with fail
  refine (HPL.out _).mono ?_
  rintro e wp ⟨rfl, rfl⟩
  have HTD := Lib.hid (touched_any w2 p r s HA.out.1)
  go_wp2_with fail
  refine HTD.out.mono ?_
  rintro e wp ⟨rfl, rfl⟩
  clear HTD
  have hl2 := HX.out.2.2
  have hok2 : ∀ j, 0 ≤ s.ws.getD j 0 ∧ s.ws.getD j 0 < 33554432 := by rw [HA.out.2.1]; exact HX.out.1
  have P2 := PQ.start HA.out.1 hok2 (by rw [HA.out.2.1, hl2]; have := HNN.out; omega)
  have ka : Kp [] wp (wp.alloc (.cells #[.slice none 0 0] 32)) := (Kp.refl _ _).alloc _
  have HP2 := Lib.hid P2
  have B2 : Hid (Bx1 (wp.alloc (.cells #[.slice none 0 0] 32)) wp.heap.size (.slice none 0 0) 32) := Lib.hid (heap_alloc_new wp _)
  have K3 := Lib.hid (K2.out.trans ka)
  have HW3 := Lib.hid (HW2.out.keep ka (by simp))
  have HBW := Lib.hid (show w.heap.size ≤ wp.heap.size from K2.out.size)
  have HA3 := Lib.hid (And.intro (HA.out.1.keep ka (by simp) (by simp)) (And.intro HA.out.2.1 HA.out.2.2))
  clear P2 ka hok2 HW2 K2
  go_upto_region 10 with (fail)
  generalize hbw : wp.heap.size = bw at *
  generalize wp.alloc (.cells #[.slice none 0 0] 32) = w3 at *
  clear hbw HA
  obtain ⟨kk, hkk⟩ : ∃ kk, 4 * nn - 3 = kk := ⟨_, rfl⟩
  have hk4 : kk < 0 ∨ kk.toNat % 4 = 1 := by omega
  rw [hkk]
  have HK4 := Lib.hid hk4
  clear hkk hk4
  by_cases hc : 1 < c
  · have hc2 : ¬ c < 2 := by omega
    go_wp2_with fail
    refine (pub_dark w3 p bw kk c hc).mono ?_
    rintro e wq ⟨rfl, rfl⟩
    have cb := B2.out.cell
    have HTD := Lib.hid (touched_any w3 p r s HA3.out.1)
    have HSm := Lib.hid (same_true w3 p r b2 0 cap2 N s ws hl2 (by have := HNN.out; omega) (by have := HNN.out; omega) HA3.out.1 HA3.out.2.1 HW3.out)
    clear HP2 HL hl2
    go_wp2_with fail
    refine HTD.out.mono ?_
    rintro e wq ⟨rfl, rfl⟩
    have heq : (((s.t : Nat) : Int) == (s.t : Int)) = true := by simp
    go_wp2_with fail
    refine HSm.out.mono ?_
    rintro e w5 ⟨rfl, hk5⟩
    have K5 := Lib.hid (K3.out.trans hk5)
    clear hk5 HSm
    go_wp2_with fail
    refine (wakes16 _).mono ?_
    rintro e w6 ⟨rfl, hk6⟩
    have K6 := Lib.hid (K5.out.trans hk6)
    clear hk6 K5
    go_wp2_with fail
    go_ret
    exact ⟨rfl, K6.out⟩
  · have hc2 : c < 2 := by omega
    have hcn := cntL_le s
    rw [HA3.out.2.1, hl2] at hcn
    have HPB := Lib.hid (publish_any HP2.out (by have := HA3.out.2.2; have := HNN.out; omega) (by have := HNN.out; omega) kk c c0 (by omega))
    clear hcn hl2
    go_wp2_with fail
    refine HPB.out.mono ?_
    rintro e w4 ⟨rfl, m, s', hm, ht', hq4⟩
    obtain ⟨hlen', P', hP', hw'⟩ := pub_left c0 (by omega) HX.out.2.1 HK4.out HA3.out.2.1 hm
    have HQ4 := Lib.hid hq4
    have K4 := Lib.hid (kp_news K3.out hq4.kp (fun x hx => by simp only [List.mem_cons, List.not_mem_nil, or_false] at hx; have h1 := HPR.out; have h3 := HBW.out; rcases hx with rfl | rfl | rfl <;> omega))
    have HW4 := Lib.hid (HW3.out.keep hq4.kp (by have := HD.out; simp only [List.mem_cons, List.not_mem_nil, or_false, not_or]; omega))
    have HPD := Lib.hid (published_any w4 b2 0 cap2 N kk c c0 (by omega) ws HX.out.2.2 (by have := HNN.out; omega) (by have := HNN.out; omega) HW4.out HX.out.1)
    have HE := Lib.hid (And.intro (hlen'.trans HX.out.2.2) (And.intro hP' hw'))
    clear hm ht' hq4 hlen' hP' hw' HPB HW3
    go_wp2_with fail
    refine HPD.out.mono ?_
    rintro e w5 ⟨g, cp, Y, P, rfl, hwd, hyn, hP, hY, hk5⟩
    have hsY : s'.ws = Y := by
      refine List.ext_getElem (HE.out.1.trans hyn.symm) (fun j j1 j2 => ?_)
      have e1 := HE.out.2.2 j
      have e2 := hY j (by omega)
      have e3 : P j = P' j := by rw [Bool.eq_iff_iff, hP j, HE.out.2.1 j]
      have e4 : s'.ws.getD j 0 = Y.getD j 0 := by rw [e1, e2, mixW, mixW, e3]
      simpa [List.getD, j1, j2] using e4
    have hq5 := HQ4.out.on hk5
    obtain ⟨vq, hbx, hqq⟩ := hq5.q
    obtain ⟨aoq, cpq, rfl⟩ := hqq.formN (n := 0) rfl
    have cb := hbx.cell
    have HSm := Lib.hid (same_true w5 p r g 0 cp N s' Y hyn (by have := HNN.out; omega) (by have := HNN.out; omega) hq5.ar hsY hwd)
    have K5 := Lib.hid (K4.out.trans hk5)
    clear hq5 hbx hqq hwd hP hY hk5 hsY HPD K4 HQ4 HW4
    go_wp2_with fail
    refine HSm.out.mono ?_
    rintro e w6 ⟨rfl, hk6⟩
    have K6 := Lib.hid (K5.out.trans hk6)
    clear hk6 HSm
    go_wp2_with fail
    refine (wakes16 _).mono ?_
    rintro e w7 ⟨rfl, hk7⟩
    have K7 := Lib.hid (K6.out.trans hk7)
    clear hk7 K6
    go_wp2_with fail
    go_ret
    exact ⟨rfl, K7.out⟩

end Go.Proofs.Ytdnlddjgjceogaa
