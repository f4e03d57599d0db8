/- ShadeOnce: its early ends, each done alone. Written by gen/so_h.py. ShadeOnce: an early end, in company. Written by gen/so_i.py. ShadeOnce: out of its bounds; a header that may not be: as a whole. Written by gen/so_j.py. ShadeOnce: the pieces of its second loop's round but New, each done alone. Written by gen/so_k.py. ShadeOnce: its second loop's round: an agent more. Written by gen/so_l.py. ShadeOnce: its second loop. Written by gen/so_m.py. Conditions: as each theorem states them. -/
import Derived.Test.YtnbibpmhmffmpaaPk18
namespace Go.Proofs.Ytnbibpmhmffmpaa
set_option linter.unusedVariables false
set_option linter.unusedSimpArgs false
set_option maxRecDepth 100000
open Go.RowKit

section
variable {bh oh bd od : Nat} {s : St} {x : Nat → Value} {wt : World} {Q : Exit → Act → World → Prop} {n ch M cd K co bc pA rA : Nat} {ao dd bo : Option Addr} {cc : Int}

set_option maxHeartbeats 2000000 in
theorem so_p2_skip (hx0 : x 0 = .slice ao n ch) (hx1 : x 1 = .slice dd M cd) (hx2 : x 2 = .slice bo K co) (hx7 : x 7 = .pointer (some ⟨bc, 0, none⟩)) (hx9 : x 9 = .int .i64 n) (hc : wt.cell? ⟨bc, 0, none⟩ = some (.int .u8 cc)) (hbad : n < 1 ∨ 4 < n ∨ 4 < M ∨ M < 1 ∨ 100 < K ∨ 1 < cc) (hQ : ∀ a' w', a'.defers = [] → a'.tmps.size = 318 → a'.tmps.getD 8 undef = .bool true → Kp [] wt w' → Q .ret a' w') : (soP2 Try.f5).wp Try.prog Q ⟨T318 x, []⟩ wt := by
  have HQ := Lib.hid hQ
  have HB := Lib.hid hbad
  have HW := Lib.hid (fun w => swakes_any w)
  clear hQ hbad
  simp only [soP2, bodyOf, Try.f5, codeL, codeR, blockOf, loopOf, Option.getD_some, T318]
  simp only [hx0, hx1, hx2, hx7, hx9]
  go_wp2_with fail
  all_goals first
    | (exfalso; have := HB.out; omega)
    | (refine (HW.out _).mono ?_
       rintro e w1 ⟨rfl, hk⟩
       have HK := Lib.hid hk
       clear hk
       go_wp2
       exact HQ.out _ _ rfl rfl rfl HK.out)

set_option maxHeartbeats 2000000 in
theorem so_p5_no {L : List Hd} {a0 : Nat} (hx0 : x 0 = .slice (some ⟨bh, oh, none⟩) n ch) (hx1 : x 1 = .slice (some ⟨bd, od, none⟩) M cd) (hx2 : x 2 = .slice bo K co) (hx7 : x 7 = .pointer (some ⟨bc, 0, none⟩)) (hx9 : x 9 = .int .i64 n) (hx10 : x 10 = .pointer (some ⟨pA, 0, none⟩)) (hn4 : n ≤ 4) (hL : L.length = n) (hH : HeadsAt wt bh oh L) (hm : L.all Hd.may = false) (ha : Ar wt pA rA (fresh n)) (hbp : bh ≠ pA ∧ bh ≠ rA)
    (hQ : ∀ a' w', a'.defers = [] → a'.tmps.size = 318 → a'.tmps.getD 8 undef = .bool true → Ks (fun b => b = pA ∨ b = rA) wt w' → Q .ret a' w') : (soP5 Try.f5).wp Try.prog Q ⟨T318 x, []⟩ wt := by
  have HQ := Lib.hid hQ
  have HH := Lib.hid hH
  have HM := Lib.hid hm
  have HA := Lib.hid ha
  have HWK := Lib.hid (fun w => swakes_any w)
  clear hQ hH hm ha
  simp only [soP5, bodyOf, Try.f5, codeL, codeR, blockOf, loopOf, Option.getD_some, T318]
  simp only [hx0, hx1, hx2, hx7, hx9, hx10]
  go_wp2_with fail
  go_loopg [12] n (fun g v wr => ∃ i : Nat, i + g = n ∧ v = .int .i64 i ∧ Hid (∃ s, Ar wr pA rA s ∧ s.ws.length = n ∧ s.t = i ∧ (∀ j h, j < i → L[j]? = some h → h.may = true) ∧ Kp [pA, rA] wt wr))
  case atStart => exact ⟨0, by omega, rfl, Lib.hid ⟨_, HA.out, by simp [fresh], rfl, fun j h hj => by omega, Kp.refl _ _⟩⟩
  case round =>
    obtain ⟨i, hi, rfl, HR⟩ := hrel
    by_cases hlt : i < n
    · obtain ⟨s, r1, r2, r3, r4, r5⟩ := HR.out
      obtain ⟨h, hh⟩ : ∃ h, L[i]? = some h := ⟨L[i], List.getElem?_eq_getElem (by omega)⟩
      obtain ⟨ho, hcs⟩ := HH.out i h hh
      have kc : ∀ o v, wt.cell? ⟨bh, o, none⟩ = some v → wr.cell? ⟨bh, o, none⟩ = some v := fun o v hv => by
        rw [World.cell?_of_block (r5.block bh (World.block_lt_of_cell? _ _ hv) (by simp; omega))]; exact hv
      have d0 := kc _ _ (hcs 0 _ rfl)
      have d1 := kc _ _ (hcs 1 _ rfl)
      have d2 := kc _ _ (hcs 2 _ rfl)
      have d3 := kc _ _ (hcs 3 _ rfl)
      have d4 := kc _ _ (hcs 4 _ rfl)
      have d5 := kc _ _ (hcs 5 _ rfl)
      have d6 := kc _ _ (hcs 6 _ rfl)
      simp only [Nat.add_zero] at d0
      have HS := Lib.hid (And.intro r1 (And.intro r2 (And.intro r3 (And.intro r4 r5))))
      cases hmay : h.may
      · have HP := Lib.hid (fun w => put_no h.k h.c h.o h.r h.s h.g h.m w ho.1 ho.2.2.2.1 hmay)
        clear hcs hmay ho hh r1 r2 r3 r4 r5 HR kc
        go_wp2_with fail
        refine (HP.out _).mono ?_
        rintro e w1 ⟨rfl, hb⟩
        have K1 := Lib.hid (HS.out.2.2.2.2.trans ((kp_of_below hb).mono (by simp)))
        clear hb HP
        go_wp2_with fail
        refine (HWK.out _).mono ?_
        rintro e w2 ⟨rfl, hk⟩
        have K2 := Lib.hid (K1.out.trans (hk.mono (by simp)))
        clear hk
        go_wp2_with fail
        exact HQ.out _ _ rfl rfl rfl ((ks_of_kp K2.out).mono fun b _ hb => by simpa using hb)
      clear HS
      have HHM := Lib.hid (And.intro hh hmay)
      have HP := Lib.hid (fun w => put_yes h.k h.c h.o h.r h.s h.g h.m w ho.1 ho.2.1 ho.2.2.1 ho.2.2.2.1 ho.2.2.2.2 hmay)
      have hwg : True := trivial --.getD i 0 = wordI h.k h.c h.o h.r h.s h.g h.m := by simp [List.getD, hh, Hd.w]
      generalize wordI h.k h.c h.o h.r h.s h.g h.m = y at HP
      have HS := Lib.hid (And.intro r1 (And.intro r2 (And.intro r3 (And.intro r4 r5))))
      clear hcs hmay ho hh hwg r1 r2 r3 r4 r5 HR kc
      go_wp2_with fail
      refine (HP.out _).mono ?_
      rintro e w1 ⟨rfl, hb⟩
      have k1 := kp_of_below hb
      have HW := Lib.hid (write_any w1 pA rA s (i : Int) y (HS.out.1.keep k1 (by simp) (by simp)) (by have := HS.out.2.1; omega) (by have := HS.out.2.2.1; omega))
      have K1 := Lib.hid (HS.out.2.2.2.2.trans (k1.mono (by simp)))
      clear hb k1 d0 d1 d2 d3 d4 d5 d6 HP
      go_wp2_with fail
      refine HW.out.mono ?_
      rintro e w3 ⟨rfl, ha, hk⟩
      have F : Hid (∃ s, Ar w3 pA rA s ∧ s.ws.length = n ∧ s.t = i + 1 ∧ (∀ j h, j < i + 1 → L[j]? = some h → h.may = true) ∧ Kp [pA, rA] wt w3) := by
        obtain ⟨_, r2, r3, r4, _⟩ := HS.out
        have hin : inB s (i : Int) = true := inB_iff.2 (by omega)
        refine Lib.hid ⟨_, ha, by rw [upd_len]; exact r2, by rw [upd_in hin]; simp [r3], fun j h' hj hh' => ?_, K1.out.trans hk⟩
        by_cases hj2 : j = i
        · subst hj2
          obtain rfl := Option.some.inj (HHM.out.1.symm.trans hh')
          exact HHM.out.2
        · exact r4 j h' (by omega) hh'
      clear ha hk HW
      go_wp2_with fail
      go_roundg (n - (i + 1))
      exact ⟨i + 1, by omega, rfl, F⟩
      omega
    · obtain rfl : i = n := by omega
      obtain ⟨s, r1, r2, r3, r4, r5⟩ := HR.out
      exfalso
      have : L.all Hd.may = true := List.all_eq_true.2 fun h hm => by
        obtain ⟨j, hj⟩ := List.getElem?_of_mem hm
        exact r4 j h (by have := (List.getElem?_eq_some_iff.1 hj).1; omega) hj
      rw [HM.out] at this
      cases this

end

end Go.Proofs.Ytnbibpmhmffmpaa

namespace Go.Proofs.Ytnbibpmhmffmpaa
set_option linter.unusedVariables false
set_option linter.unusedSimpArgs false
set_option maxRecDepth 100000
open Go.RowKit
open Go.Conc

section
variable {pl : Nat → Option Place} {w : World} {N : Nat} {Post : Value → World → Prop} {own : Nat → Prop} {A : World → Prop} {x : Nat → Value} {k : List Item} {c : Code} {args : Array Value} {S : Nat → Prop}

theorem piece_ret (hpl : ∀ i, pl i = none) (hP : Priv own A) (hA : A w) (hok : StOK Try.prog ((Frame.enter Try.prog 5 args .normal).at ⟨T318 x, []⟩ (.code c :: k)) [])
    (hc : ∀ (wt : World) (Q : Exit → Act → World → Prop), A wt → (∀ a' w', a'.defers = [] → a'.tmps.size = 318 → a'.tmps.getD 8 undef = .bool true → Ks S wt w' → Q .ret a' w') → c.wp Try.prog Q ⟨T318 x, []⟩ wt)
    (H : ∀ w', Ks S w w' → Post (.bool true) w') :
    Win Try.prog Post pl N 0 (gor ((Frame.enter Try.prog 5 args .normal).at ⟨T318 x, []⟩ (.code c :: k)) []) w := by
  have L := lies_none hpl w
  refine Win.code mild L (Q := fun e a' u => e = .ret ∧ (a'.defers = [] ∧ a'.tmps.size = 318 ∧ a'.tmps.getD 8 undef = .bool true) ∧ Ks S (L.veil.world (fun _ _ => 0) 0 w) u) hok (fun τ => ?_) ?_ ?_ ?_ ?_
  · exact hc _ _ (hP.st _ _ hA fun b hb => L.same w rfl (hP.np _ _ hA hb)) fun a' w' h1 h2 h3 hk => ⟨rfl, ⟨h1, h2, h3⟩, ks_twin0 hk⟩
  · intro a u h; cases h.1
  · intro id a u h; cases h.1
  · intro l a u h; cases h.1
  · intro e a' w' τ' D' fr' hst hVOK hVK hq hl
    obtain ⟨rfl, ⟨h1, h2, h3⟩, hk⟩ := hq
    obtain ⟨todo, rfl⟩ := hl
    have hK := ks_of_twin L hVOK hVK hk
    obtain ⟨t, df⟩ := a'
    simp only at h1 h2 h3
    subst h1
    have h4 : t[8]? = some (.bool true) := by
      rw [Array.getElem?_eq_getElem (by omega)]
      rw [Array.getD, dif_pos (by omega)] at h3
      exact congrArg some h3
    refine Win.done hpl rfl fun d => ?_
    refine ⟨.bool true, #[], ?_, fun e he => by simp at he, H _ (hK.at d)⟩
    exact stepG_done rfl rfl rfl Try.func5 (by kernel_rfl) (fun w => by rw [Sem.runT_eq]; simp [go_sem, results, Try.f5, Frame.at, h4]) _
end

end Go.Proofs.Ytnbibpmhmffmpaa

namespace Go.Proofs.Ytnbibpmhmffmpaa
set_option linter.unusedVariables false
set_option linter.unusedSimpArgs false
set_option maxRecDepth 100000
open Go.RowKit
open Go.Conc

section
variable {x : Nat → Value} {wt : World} {Q : Exit → Act → World → Prop} {n ch M cd K co bc : Nat} {ao dd bo : Option Addr} {cc : Int}
theorem so_p0x (hx0 : x 0 = .slice ao n ch) (hx1 : x 1 = .slice dd M cd) (hx2 : x 2 = .slice bo K co) (hx3 : x 3 = .int .u8 cc)
    (hQ : ∀ a' w', FrX [(0, .slice ao n ch), (1, .slice dd M cd), (2, .slice bo K co), (7, .pointer (some ⟨wt.heap.size, 0, none⟩))] a' → w'.heap[wt.heap.size]? = some (.cells #[.int .u8 cc] 5 (0, 0)) → Kp [] wt w' → Q .normal a' w') : (soP0 Try.f5).wp Try.prog Q ⟨T318 x, []⟩ wt := by
  have HQ := Lib.hid hQ
  clear hQ
  simp only [soP0, bodyOf, Try.f5, codeL, codeR, blockOf, loopOf, Option.getD_some, T318]
  simp only [hx0, hx1, hx2, hx3]
  go_wp2
  exact HQ.out _ _ ⟨rfl, rfl, ⟨rfl, rfl, rfl, rfl, trivial⟩⟩ (heap_alloc_new wt _) ((Kp.refl _ _).alloc _)

theorem so_p1x (hx0 : x 0 = .slice ao n ch) (hx1 : x 1 = .slice dd M cd) (hx2 : x 2 = .slice bo K co) (hx7 : x 7 = .pointer (some ⟨bc, 0, none⟩)) (hQ : ∀ a', FrX [(0, .slice ao n ch), (1, .slice dd M cd), (2, .slice bo K co), (7, .pointer (some ⟨bc, 0, none⟩)), (9, .int .i64 n)] a' → Q .normal a' wt) : (soP1 Try.f5).wp Try.prog Q ⟨T318 x, []⟩ wt := by
  have HQ := Lib.hid hQ
  clear hQ
  simp only [soP1, bodyOf, Try.f5, codeL, codeR, blockOf, loopOf, Option.getD_some, T318]
  simp only [hx0, hx1, hx2, hx7]
  go_wp2
  exact HQ.out _ ⟨rfl, rfl, ⟨rfl, rfl, rfl, rfl, rfl, trivial⟩⟩

end

section
variable {pl : Nat → Option Place} {w : World} {N : Nat} {Post : Value → World → Prop} {own : Nat → Prop} {A : World → Prop} {bh oh n ch bd od M cd K co : Nat} {ao dd bo : Option Addr} {cc : Int}

set_option maxHeartbeats 1000000 in
theorem so_bad (hpl : ∀ i, pl i = none) (hbad : n < 1 ∨ 4 < n ∨ 4 < M ∨ M < 1 ∨ 100 < K ∨ 1 < cc)
    (H : ∀ w', Ks (fun _ => False) w w' → Post (.bool true) w') :
    Win Try.prog Post pl N 0 (gor (Frame.enter Try.prog 5 #[.slice ao n ch, .slice dd M cd, .slice bo K co, .int .u8 cc] .normal) []) w := by
  have hP : Priv (fun _ => False) (fun _ => True) := Priv.const True
  have hA : True := trivial
  have hb : (Frame.enter Try.prog 5 #[.slice ao n ch, .slice dd M cd, .slice bo K co, .int .u8 cc] .normal).kind = .normal := rfl
  have hbd : Try.f5.body = some (soR0 Try.f5) := by kernel_rfl
  rw [enter_at Try.func5 hbd]
  have e0 : soR0 Try.f5 = .seq (soP0 Try.f5) (soR1 Try.f5) := by kernel_rfl
  have e1 : soR1 Try.f5 = .seq (soP1 Try.f5) (soR2 Try.f5) := by kernel_rfl
  have e2 : soR2 Try.f5 = .seq (soP2 Try.f5) (soR3 Try.f5) := by kernel_rfl
  have e3 : soR3 Try.f5 = .seq (soP3 Try.f5) (soR4 Try.f5) := by kernel_rfl
  have e4 : soR4 Try.f5 = .seq (soP4 Try.f5) (soR5 Try.f5) := by kernel_rfl
  have e5 : soR5 Try.f5 = .seq (soP5 Try.f5) (soR6 Try.f5) := by kernel_rfl
  have e6 : soR6 Try.f5 = .seq (soP6 Try.f5) (soR7 Try.f5) := by kernel_rfl
  have e7 : soR7 Try.f5 = .seq (soP7 Try.f5) (soR8 Try.f5) := by kernel_rfl
  have e8 : soR8 Try.f5 = .seq (soP8 Try.f5) (soR9 Try.f5) := by kernel_rfl
  have e9 : soR9 Try.f5 = .seq (soP9 Try.f5) (soR10 Try.f5) := by kernel_rfl
  have hnt : Try.f5.ntmps - (#[.slice ao n ch, .slice dd M cd, .slice bo K co, .int .u8 cc] : Array Value).size = 314 := by kernel_rfl
  rw [hnt]
  clear hnt
  obtain ⟨x, hxe, hx0, hx1, hx2, hx3⟩ := four_at (.slice ao n ch) (.slice dd M cd) (.slice bo K co) (.int .u8 cc)
  rw [hxe]
  clear hxe
  rw [e0]
  refine Win.seq ?_
  refine piece_new (A := fun _ => True) hpl hP hA (ι := {bc : Nat // w.heap.size ≤ bc}) (own' := fun bc => (· = bc.1)) (A' := fun bc w => w.heap[bc.1]? = some (.cells #[.int .u8 cc] 5 (0, 0))) (fun bc => Priv.row _ _ _ _) (fun bc y hy => hy ▸ bc.2) (K' := fun bc => [(0, .slice ao n ch), (1, .slice dd M cd), (2, .slice bo K co), (7, .pointer (some ⟨bc.1, 0, none⟩))]) (stok_at hb rfl (by simp) (by kernel_rfl)) (fun wt Q h1 h2 hQ => so_p0x hx0 hx1 hx2 hx3 fun a' w' hf hr hk => hQ a' ⟨wt.heap.size, by omega⟩ w' hf hr hk) ?_
  rintro x1 ⟨bc, gbc⟩ w1 hx hA1 hr1 k1
  clear hx0 hx1 hx2 hx3 x
  obtain ⟨hx0, hx1, hx2, hx7, -⟩ := hx
  have PA := hP.and (Priv.row bc #[.int .u8 cc] 5 (0, 0))
  rw [e1]
  refine Win.seq ?_
  refine piece_still hpl PA ⟨hA1, hr1⟩ (stok_at hb rfl (by simp) (by kernel_rfl)) (fun wt Q h1 hQ => so_p1x hx0 hx1 hx2 hx7 hQ) ?_
  rintro x2 w2 hx hA2 k2
  clear hx0 hx1 hx2 hx7
  obtain ⟨hx0, hx1, hx2, hx7, hx9, -⟩ := hx
  rw [e2]
  refine Win.seq ?_
  refine piece_ret (S := fun _ => False) hpl PA hA2 (stok_at rfl rfl (by simp) (by kernel_rfl)) (fun wt Q h1 hQ => so_p2_skip hx0 hx1 hx2 hx7 hx9 ((cell_of_row h1.2 0).trans rfl) hbad fun a' w' z1 z2 z3 hk => hQ a' w' z1 z2 z3 ((ks_of_kp hk).mono fun _ _ z => by simp at z)) ?_
  exact fun w' k => H w' ((k1.trans k2).trans k)

set_option maxHeartbeats 1000000 in
theorem so_unfit {L : List Hd} (hpl : ∀ i, pl i = none) (hP : Priv own A) (hA : A w) (hAh : ∀ w, A w → HeadsAt w bh oh L) (hbh : own bh) (hn1 : 1 ≤ n) (hn4 : n ≤ 4) (hM1 : 1 ≤ M) (hM4 : M ≤ 4) (hK : K ≤ 100) (hc1 : cc ≤ 1) (hL : L.length = n) (hm : L.all Hd.may = false)
    (H : ∀ w', Ks (fun _ => False) w w' → Post (.bool true) w') :
    Win Try.prog Post pl N 0 (gor (Frame.enter Try.prog 5 #[.slice (some ⟨bh, oh, none⟩) n ch, .slice (some ⟨bd, od, none⟩) M cd, .slice bo K co, .int .u8 cc] .normal) []) w := by
  have hb : (Frame.enter Try.prog 5 #[.slice (some ⟨bh, oh, none⟩) n ch, .slice (some ⟨bd, od, none⟩) M cd, .slice bo K co, .int .u8 cc] .normal).kind = .normal := rfl
  have hbd : Try.f5.body = some (soR0 Try.f5) := by kernel_rfl
  rw [enter_at Try.func5 hbd]
  have e0 : soR0 Try.f5 = .seq (soP0 Try.f5) (soR1 Try.f5) := by kernel_rfl
  have e1 : soR1 Try.f5 = .seq (soP1 Try.f5) (soR2 Try.f5) := by kernel_rfl
  have e2 : soR2 Try.f5 = .seq (soP2 Try.f5) (soR3 Try.f5) := by kernel_rfl
  have e3 : soR3 Try.f5 = .seq (soP3 Try.f5) (soR4 Try.f5) := by kernel_rfl
  have e4 : soR4 Try.f5 = .seq (soP4 Try.f5) (soR5 Try.f5) := by kernel_rfl
  have e5 : soR5 Try.f5 = .seq (soP5 Try.f5) (soR6 Try.f5) := by kernel_rfl
  have e6 : soR6 Try.f5 = .seq (soP6 Try.f5) (soR7 Try.f5) := by kernel_rfl
  have e7 : soR7 Try.f5 = .seq (soP7 Try.f5) (soR8 Try.f5) := by kernel_rfl
  have e8 : soR8 Try.f5 = .seq (soP8 Try.f5) (soR9 Try.f5) := by kernel_rfl
  have e9 : soR9 Try.f5 = .seq (soP9 Try.f5) (soR10 Try.f5) := by kernel_rfl
  have hnt : Try.f5.ntmps - (#[.slice (some ⟨bh, oh, none⟩) n ch, .slice (some ⟨bd, od, none⟩) M cd, .slice bo K co, .int .u8 cc] : Array Value).size = 314 := by kernel_rfl
  rw [hnt]
  clear hnt
  obtain ⟨x, hxe, hx0, hx1, hx2, hx3⟩ := four_at (.slice (some ⟨bh, oh, none⟩) n ch) (.slice (some ⟨bd, od, none⟩) M cd) (.slice bo K co) (.int .u8 cc)
  rw [hxe]
  clear hxe
  rw [e0]
  refine Win.seq ?_
  refine piece_new hpl hP hA (ι := {bc : Nat // w.heap.size ≤ bc}) (own' := fun bc => (· = bc.1)) (A' := fun bc w => w.heap[bc.1]? = some (.cells #[.int .u8 cc] 5 (0, 0))) (fun bc => Priv.row _ _ _ _) (fun bc y hy => hy ▸ bc.2) (K' := fun bc => [(0, .slice (some ⟨bh, oh, none⟩) n ch), (1, .slice (some ⟨bd, od, none⟩) M cd), (2, .slice bo K co), (7, .pointer (some ⟨bc.1, 0, none⟩))]) (stok_at hb rfl (by simp) (by kernel_rfl)) (fun wt Q h1 h2 hQ => so_p0 hx0 hx1 hx2 hx3 fun a' w' hf hr hk => hQ a' ⟨wt.heap.size, by omega⟩ w' hf hr hk) ?_
  rintro x1 ⟨bc, gbc⟩ w1 hx hA1 hr1 k1
  clear hx0 hx1 hx2 hx3 x
  obtain ⟨hx0, hx1, hx2, hx7, -⟩ := hx
  have PA := hP.and (Priv.row bc #[.int .u8 cc] 5 (0, 0))
  rw [e1]
  refine Win.seq ?_
  refine piece_still hpl PA ⟨hA1, hr1⟩ (stok_at hb rfl (by simp) (by kernel_rfl)) (fun wt Q h1 hQ => so_p1 hx0 hx1 hx2 hx7 hQ) ?_
  rintro x2 w2 hx hA2 k2
  clear hx0 hx1 hx2 hx7
  obtain ⟨hx0, hx1, hx2, hx7, hx9, -⟩ := hx
  rw [e2]
  refine Win.seq ?_
  refine piece_still hpl PA hA2 (stok_at hb rfl (by simp) (by kernel_rfl)) (fun wt Q h1 hQ => so_p2 hx0 hx1 hx2 hx7 hx9 hn1 hn4 hM1 hM4 hK ((cell_of_row h1.2 0).trans rfl) hc1 hQ) ?_
  rintro x3 w3 hx hA3 k3
  clear hx0 hx1 hx2 hx7 hx9
  obtain ⟨hx0, hx1, hx2, hx7, hx9, -⟩ := hx
  have k3 := (k1.trans k2).trans k3
  clear k1 k2
  rw [e3]
  refine Win.seq ?_
  refine piece_new hpl PA hA3 (ι := {p : Nat × Nat // w3.heap.size ≤ p.1 ∧ w3.heap.size ≤ p.2}) (own' := fun p b => b = p.1.1 ∨ b = p.1.2) (A' := fun p w => Ar w p.1.1 p.1.2 (fresh n)) (fun p => priv_ar _ _ _) (fun p y hy => hy.elim (fun e => e ▸ p.2.1) (fun e => e ▸ p.2.2)) (K' := fun p => [(0, .slice (some ⟨bh, oh, none⟩) n ch), (1, .slice (some ⟨bd, od, none⟩) M cd), (2, .slice bo K co), (7, .pointer (some ⟨bc, 0, none⟩)), (9, .int .i64 n), (10, .pointer (some ⟨p.1.1, 0, none⟩)), (11, .int .i64 0)]) (stok_at hb rfl (by simp) (by kernel_rfl)) (fun wt Q h1 h2 hQ => so_p3 hx0 hx1 hx2 hx7 hx9 hn1 hn4 fun a' w' hf hr hk => hQ a' ⟨(wt.heap.size + 1, wt.heap.size), by simp only; omega⟩ w' hf hr hk) ?_
  rintro x4 ⟨⟨pA, rA⟩, gpA, grA⟩ w4 hx hA4 hr4 k4
  simp only at gpA grA hr4
  clear hx0 hx1 hx2 hx7 hx9
  obtain ⟨hx0, hx1, hx2, hx7, hx9, hx10, hx11, -⟩ := hx
  have k4 := k3.trans k4
  have PB := PA.and (priv_ar pA rA (fresh n))
  rw [e4]
  refine Win.seq ?_
  refine piece_still hpl PB ⟨hA4, hr4⟩ (stok_at hb rfl (by simp) (by kernel_rfl)) (fun wt Q h1 hQ => so_p4 hx0 hx1 hx2 hx7 hx9 hx10 hx11 hQ) ?_
  rintro x5 w5 hx hA5 k5
  clear hx0 hx1 hx2 hx7 hx9 hx10 hx11
  obtain ⟨hx0, hx1, hx2, hx7, hx9, hx10, -⟩ := hx
  have k5 := k4.trans k5
  have lbc : bc < w3.heap.size := lt_of_block hA3.2
  have lbh : bh < w.heap.size := hP.lt _ _ hA hbh
  have hown : ∀ y, own y → y ≠ pA ∧ y ≠ rA := fun y hy => by have := hP.lt _ _ hA hy; have := k3.size; omega
  have hbc2 : bc ≠ pA ∧ bc ≠ rA := by omega
  rw [e5]
  refine Win.seq ?_
  refine piece_ret (S := fun b => b = pA ∨ b = rA) hpl PB hA5 (stok_at rfl rfl (by simp) (by kernel_rfl)) (fun wt Q h1 hQ => so_p5_no (L := L) (a0 := 0) hx0 hx1 hx2 hx7 hx9 hx10 hn4 hL (hAh _ h1.1.1) hm h1.2 (hown bh hbh) hQ) ?_
  exact fun w' k => H w' (k5.then k fun y hy z => by have := k3.size; rcases z with z | z <;> omega)
end

end Go.Proofs.Ytnbibpmhmffmpaa

namespace Go.Proofs.Ytnbibpmhmffmpaa
set_option linter.unusedVariables false
set_option linter.unusedSimpArgs false
set_option maxRecDepth 100000
open Go.RowKit

def soX2 (f : Func) : Code := loopOf (blockOf (codeR (codeL (soR10 f))))
def soB2 (f : Func) : Code := blockOf (codeL (codeR (soX2 f)))
def soK2 (f : Func) : List Item := [.inLoop (soX2 f), .inBlock 2, .code (codeR (soR10 f))]
def soQ18 (f : Func) : Code := codeL (codeL (soR10 f))
def soQ19 (f : Func) : Code := codeL (soX2 f)
def soQ20 (f : Func) : Code := codeR (codeR (soX2 f))
def soQ21 (f : Func) : Code := codeL (soB2 f)
def soQ22 (f : Func) : Code := codeL (codeR (soB2 f))
def soQ23 (f : Func) : Code := codeL (codeR (codeR (soB2 f)))
def soQ25 (f : Func) : Code := codeL (codeR (codeR (codeR (codeR (soB2 f)))))
def soQ26 (f : Func) : Code := codeR (codeR (codeR (codeR (codeR (soB2 f)))))

section
variable {x : Nat → Value} {wt : World} {Q : Exit → Act → World → Prop} {bh oh n ch bd od M cd K co bc pA rA bf be i q20 q21 q22 pg : Nat} {bo : Option Addr} {cc d : Int} {va : Value}

theorem so_q18 (hx0 : x 0 = .slice (some ⟨bh, oh, none⟩) n ch) (hx1 : x 1 = .slice (some ⟨bd, od, none⟩) M cd) (hx2 : x 2 = .slice bo K co) (hx7 : x 7 = .pointer (some ⟨bc, 0, none⟩)) (hx9 : x 9 = .int .i64 n) (hx10 : x 10 = .pointer (some ⟨pA, 0, none⟩)) (hx15 : x 15 = .slice (some ⟨bf, 0, none⟩) n n) (hx16 : x 16 = .slice (some ⟨be, 0, none⟩) M M) (hx17 : x 17 = va) (hx18 : x 18 = .bool true)  (hQ : ∀ a', FrX [(0, .slice (some ⟨bh, oh, none⟩) n ch), (1, .slice (some ⟨bd, od, none⟩) M cd), (2, .slice bo K co), (7, .pointer (some ⟨bc, 0, none⟩)), (9, .int .i64 n), (10, .pointer (some ⟨pA, 0, none⟩)), (15, .slice (some ⟨bf, 0, none⟩) n n), (16, .slice (some ⟨be, 0, none⟩) M M), (17, va), (18, .bool true), (19, .int .i64 0)] a' → Q (.normal) a' wt) : (soQ18 Try.f5).wp Try.prog Q ⟨T318 x, []⟩ wt := by
  have HQ := Lib.hid hQ
  clear hQ
  simp only [soQ18, soX2, soB2, soR10, bodyOf, Try.f5, codeL, codeR, blockOf, loopOf, Option.getD_some, T318]
  simp only [hx0, hx1, hx2, hx7, hx9, hx10, hx15, hx16, hx17, hx18]
  go_wp2
  exact HQ.out _ ⟨rfl, rfl, ⟨rfl, rfl, rfl, rfl, rfl, rfl, rfl, rfl, rfl, rfl, rfl, trivial⟩⟩

theorem so_q19 (hx0 : x 0 = .slice (some ⟨bh, oh, none⟩) n ch) (hx1 : x 1 = .slice (some ⟨bd, od, none⟩) M cd) (hx2 : x 2 = .slice bo K co) (hx7 : x 7 = .pointer (some ⟨bc, 0, none⟩)) (hx9 : x 9 = .int .i64 n) (hx10 : x 10 = .pointer (some ⟨pA, 0, none⟩)) (hx15 : x 15 = .slice (some ⟨bf, 0, none⟩) n n) (hx16 : x 16 = .slice (some ⟨be, 0, none⟩) M M) (hx17 : x 17 = va) (hx18 : x 18 = .bool true) (hx19 : x 19 = .int .i64 i) (hi : i < M) (hM4 : M ≤ 4) (hQ : ∀ a', FrX [(0, .slice (some ⟨bh, oh, none⟩) n ch), (1, .slice (some ⟨bd, od, none⟩) M cd), (2, .slice bo K co), (7, .pointer (some ⟨bc, 0, none⟩)), (9, .int .i64 n), (10, .pointer (some ⟨pA, 0, none⟩)), (15, .slice (some ⟨bf, 0, none⟩) n n), (16, .slice (some ⟨be, 0, none⟩) M M), (17, va), (18, .bool true), (19, .int .i64 i)] a' → Q (.normal) a' wt) : (soQ19 Try.f5).wp Try.prog Q ⟨T318 x, []⟩ wt := by
  have HQ := Lib.hid hQ
  clear hQ
  simp only [soQ19, soX2, soB2, soR10, bodyOf, Try.f5, codeL, codeR, blockOf, loopOf, Option.getD_some, T318]
  simp only [hx0, hx1, hx2, hx7, hx9, hx10, hx15, hx16, hx17, hx18, hx19]
  go_wp2
  exact HQ.out _ ⟨rfl, rfl, ⟨rfl, rfl, rfl, rfl, rfl, rfl, rfl, rfl, rfl, rfl, rfl, trivial⟩⟩

theorem so_q21 (hx0 : x 0 = .slice (some ⟨bh, oh, none⟩) n ch) (hx1 : x 1 = .slice (some ⟨bd, od, none⟩) M cd) (hx2 : x 2 = .slice bo K co) (hx7 : x 7 = .pointer (some ⟨bc, 0, none⟩)) (hx9 : x 9 = .int .i64 n) (hx10 : x 10 = .pointer (some ⟨pA, 0, none⟩)) (hx15 : x 15 = .slice (some ⟨bf, 0, none⟩) n n) (hx16 : x 16 = .slice (some ⟨be, 0, none⟩) M M) (hx17 : x 17 = va) (hx18 : x 18 = .bool true) (hx19 : x 19 = .int .i64 i) (hi : i < M) (hM4 : M ≤ 4) (hc : wt.cell? ⟨bd, od + i, none⟩ = some (.int .u8 d)) (hQ : ∀ a' w', FrX [(0, .slice (some ⟨bh, oh, none⟩) n ch), (1, .slice (some ⟨bd, od, none⟩) M cd), (2, .slice bo K co), (7, .pointer (some ⟨bc, 0, none⟩)), (9, .int .i64 n), (10, .pointer (some ⟨pA, 0, none⟩)), (15, .slice (some ⟨bf, 0, none⟩) n n), (16, .slice (some ⟨be, 0, none⟩) M M), (17, va), (18, .bool true), (19, .int .i64 i), (20, .pointer (some ⟨wt.heap.size, 0, none⟩))] a' → w'.heap[wt.heap.size]? = some (.cells #[.int .u8 d] 5 (0, 0)) → Kp [] wt w' → Q .normal a' w') : (soQ21 Try.f5).wp Try.prog Q ⟨T318 x, []⟩ wt := by
  have HQ := Lib.hid hQ
  clear hQ
  simp only [soQ21, soX2, soB2, soR10, bodyOf, Try.f5, codeL, codeR, blockOf, loopOf, Option.getD_some, T318]
  simp only [hx0, hx1, hx2, hx7, hx9, hx10, hx15, hx16, hx17, hx18, hx19]
  go_wp2
  exact HQ.out _ _ ⟨rfl, rfl, ⟨rfl, rfl, rfl, rfl, rfl, rfl, rfl, rfl, rfl, rfl, rfl, rfl, trivial⟩⟩ (heap_alloc_new wt _) ((Kp.refl _ _).alloc _)

theorem so_q22 (hx0 : x 0 = .slice (some ⟨bh, oh, none⟩) n ch) (hx1 : x 1 = .slice (some ⟨bd, od, none⟩) M cd) (hx2 : x 2 = .slice bo K co) (hx7 : x 7 = .pointer (some ⟨bc, 0, none⟩)) (hx9 : x 9 = .int .i64 n) (hx10 : x 10 = .pointer (some ⟨pA, 0, none⟩)) (hx15 : x 15 = .slice (some ⟨bf, 0, none⟩) n n) (hx16 : x 16 = .slice (some ⟨be, 0, none⟩) M M) (hx17 : x 17 = va) (hx18 : x 18 = .bool true) (hx19 : x 19 = .int .i64 i) (hx20 : x 20 = .pointer (some ⟨q20, 0, none⟩)) (hn1 : 1 ≤ n) (hn4 : n ≤ 4) (hd : 0 ≤ d ∧ d ≤ 255) (hc : wt.cell? ⟨q20, 0, none⟩ = some (.int .u8 d)) (hQ : ∀ a' w', FrX [(0, .slice (some ⟨bh, oh, none⟩) n ch), (1, .slice (some ⟨bd, od, none⟩) M cd), (2, .slice bo K co), (7, .pointer (some ⟨bc, 0, none⟩)), (9, .int .i64 n), (10, .pointer (some ⟨pA, 0, none⟩)), (15, .slice (some ⟨bf, 0, none⟩) n n), (16, .slice (some ⟨be, 0, none⟩) M M), (17, va), (18, .bool true), (19, .int .i64 i), (20, .pointer (some ⟨q20, 0, none⟩)), (21, .pointer (some ⟨wt.heap.size, 0, none⟩))] a' → w'.heap[wt.heap.size]? = some (.cells #[.int .i64 (d % n)] 3 (0, 0)) → Kp [] wt w' → Q .normal a' w') : (soQ22 Try.f5).wp Try.prog Q ⟨T318 x, []⟩ wt := by
  have HQ := Lib.hid hQ
  clear hQ
  simp only [soQ22, soX2, soB2, soR10, bodyOf, Try.f5, codeL, codeR, blockOf, loopOf, Option.getD_some, T318]
  simp only [hx0, hx1, hx2, hx7, hx9, hx10, hx15, hx16, hx17, hx18, hx19, hx20]
  go_wp2
  exact HQ.out _ _ ⟨rfl, rfl, ⟨rfl, rfl, rfl, rfl, rfl, rfl, rfl, rfl, rfl, rfl, rfl, rfl, rfl, trivial⟩⟩ (heap_alloc_new wt _) ((Kp.refl _ _).alloc _)

theorem so_q23 (hx0 : x 0 = .slice (some ⟨bh, oh, none⟩) n ch) (hx1 : x 1 = .slice (some ⟨bd, od, none⟩) M cd) (hx2 : x 2 = .slice bo K co) (hx7 : x 7 = .pointer (some ⟨bc, 0, none⟩)) (hx9 : x 9 = .int .i64 n) (hx10 : x 10 = .pointer (some ⟨pA, 0, none⟩)) (hx15 : x 15 = .slice (some ⟨bf, 0, none⟩) n n) (hx16 : x 16 = .slice (some ⟨be, 0, none⟩) M M) (hx17 : x 17 = va) (hx18 : x 18 = .bool true) (hx19 : x 19 = .int .i64 i) (hx20 : x 20 = .pointer (some ⟨q20, 0, none⟩)) (hx21 : x 21 = .pointer (some ⟨q21, 0, none⟩)) (hi : i < M) (hM4 : M ≤ 4) (hQ : ∀ a' w', FrX [(0, .slice (some ⟨bh, oh, none⟩) n ch), (1, .slice (some ⟨bd, od, none⟩) M cd), (2, .slice bo K co), (7, .pointer (some ⟨bc, 0, none⟩)), (9, .int .i64 n), (10, .pointer (some ⟨pA, 0, none⟩)), (15, .slice (some ⟨bf, 0, none⟩) n n), (16, .slice (some ⟨be, 0, none⟩) M M), (17, va), (18, .bool true), (19, .int .i64 i), (20, .pointer (some ⟨q20, 0, none⟩)), (21, .pointer (some ⟨q21, 0, none⟩)), (22, .pointer (some ⟨wt.heap.size, 0, none⟩))] a' → w'.heap[wt.heap.size]? = some (.cells #[.pointer (some ⟨be, i, none⟩)] 62 (0, 0)) → Kp [] wt w' → Q .normal a' w') : (soQ23 Try.f5).wp Try.prog Q ⟨T318 x, []⟩ wt := by
  have HQ := Lib.hid hQ
  clear hQ
  simp only [soQ23, soX2, soB2, soR10, bodyOf, Try.f5, codeL, codeR, blockOf, loopOf, Option.getD_some, T318]
  simp only [hx0, hx1, hx2, hx7, hx9, hx10, hx15, hx16, hx17, hx18, hx19, hx20, hx21]
  go_wp2
  exact HQ.out _ _ ⟨rfl, rfl, ⟨rfl, rfl, rfl, rfl, rfl, rfl, rfl, rfl, rfl, rfl, rfl, rfl, rfl, rfl, trivial⟩⟩ (heap_alloc_new wt _) ((Kp.refl _ _).alloc _)

theorem so_q25 (hx0 : x 0 = .slice (some ⟨bh, oh, none⟩) n ch) (hx1 : x 1 = .slice (some ⟨bd, od, none⟩) M cd) (hx2 : x 2 = .slice bo K co) (hx7 : x 7 = .pointer (some ⟨bc, 0, none⟩)) (hx9 : x 9 = .int .i64 n) (hx10 : x 10 = .pointer (some ⟨pA, 0, none⟩)) (hx15 : x 15 = .slice (some ⟨bf, 0, none⟩) n n) (hx16 : x 16 = .slice (some ⟨be, 0, none⟩) M M) (hx17 : x 17 = va) (hx18 : x 18 = .bool true) (hx19 : x 19 = .int .i64 i) (hx20 : x 20 = .pointer (some ⟨q20, 0, none⟩)) (hx21 : x 21 = .pointer (some ⟨q21, 0, none⟩)) (hx22 : x 22 = .pointer (some ⟨q22, 0, none⟩)) (hx23 : x 23 = .pointer (some ⟨pg, 0, none⟩)) (hx24 : x 24 = .int .i64 0)  (hQ : ∀ a', FrX [(0, .slice (some ⟨bh, oh, none⟩) n ch), (1, .slice (some ⟨bd, od, none⟩) M cd), (2, .slice bo K co), (7, .pointer (some ⟨bc, 0, none⟩)), (9, .int .i64 n), (10, .pointer (some ⟨pA, 0, none⟩)), (15, .slice (some ⟨bf, 0, none⟩) n n), (16, .slice (some ⟨be, 0, none⟩) M M), (17, va), (18, .bool true), (19, .int .i64 i), (20, .pointer (some ⟨q20, 0, none⟩)), (21, .pointer (some ⟨q21, 0, none⟩)), (22, .pointer (some ⟨q22, 0, none⟩)), (23, .pointer (some ⟨pg, 0, none⟩)), (24, .int .i64 0)] a' → Q (.normal) a' wt) : (soQ25 Try.f5).wp Try.prog Q ⟨T318 x, []⟩ wt := by
  have HQ := Lib.hid hQ
  clear hQ
  have hnil : ∀ (a : Addr) (w : World), (binOp .neq 33 (.pointer (some a)) (.pointer none)).run Try.prog w = .ok (.bool true) w := fun a w => by kernel_rfl
  simp only [soQ25, soX2, soB2, soR10, bodyOf, Try.f5, codeL, codeR, blockOf, loopOf, Option.getD_some, T318]
  simp only [hx0, hx1, hx2, hx7, hx9, hx10, hx15, hx16, hx17, hx18, hx19, hx20, hx21, hx22, hx23, hx24]
  go_wp2
  exact HQ.out _ ⟨rfl, rfl, ⟨rfl, rfl, rfl, rfl, rfl, rfl, rfl, rfl, rfl, rfl, rfl, rfl, rfl, rfl, rfl, rfl, trivial⟩⟩

theorem so_q20 (hx0 : x 0 = .slice (some ⟨bh, oh, none⟩) n ch) (hx1 : x 1 = .slice (some ⟨bd, od, none⟩) M cd) (hx2 : x 2 = .slice bo K co) (hx7 : x 7 = .pointer (some ⟨bc, 0, none⟩)) (hx9 : x 9 = .int .i64 n) (hx10 : x 10 = .pointer (some ⟨pA, 0, none⟩)) (hx15 : x 15 = .slice (some ⟨bf, 0, none⟩) n n) (hx16 : x 16 = .slice (some ⟨be, 0, none⟩) M M) (hx17 : x 17 = va) (hx18 : x 18 = .bool true) (hx19 : x 19 = .int .i64 i) (hi : i < M) (hM4 : M ≤ 4) (hQ : ∀ a', FrX [(0, .slice (some ⟨bh, oh, none⟩) n ch), (1, .slice (some ⟨bd, od, none⟩) M cd), (2, .slice bo K co), (7, .pointer (some ⟨bc, 0, none⟩)), (9, .int .i64 n), (10, .pointer (some ⟨pA, 0, none⟩)), (15, .slice (some ⟨bf, 0, none⟩) n n), (16, .slice (some ⟨be, 0, none⟩) M M), (17, va), (18, .bool true), (19, .int .i64 ((i + 1 : Nat) : Int))] a' → Q (.normal) a' wt) : (soQ20 Try.f5).wp Try.prog Q ⟨T318 x, []⟩ wt := by
  have HQ := Lib.hid hQ
  clear hQ
  have hw := wrap_small (i := i) (by omega)
  simp only [soQ20, soX2, soB2, soR10, bodyOf, Try.f5, codeL, codeR, blockOf, loopOf, Option.getD_some, T318]
  simp only [hx0, hx1, hx2, hx7, hx9, hx10, hx15, hx16, hx17, hx18, hx19]
  go_wp2
  exact HQ.out _ ⟨rfl, rfl, ⟨rfl, rfl, rfl, rfl, rfl, rfl, rfl, rfl, rfl, rfl, rfl, trivial⟩⟩

theorem info_agent : ∃ i z, Try.prog.info? 33 = some i ∧ i.zero = some z ∧ i.size = 1 ∧ i.bytes = 8 ∧ z.cells.size = 1 := by
  obtain ⟨i, hi, hz0, hz1, hz2⟩ := info_parts (show (Try.prog.info? 33).map (fun i => (i.zero, i.size, i.bytes)) = some (some (.pointer none), 1, 8) by kernel_rfl)
  exact ⟨i, _, hi, hz0, hz1, hz2, rfl⟩

theorem so_q26 (hx0 : x 0 = .slice (some ⟨bh, oh, none⟩) n ch) (hx1 : x 1 = .slice (some ⟨bd, od, none⟩) M cd) (hx2 : x 2 = .slice bo K co) (hx7 : x 7 = .pointer (some ⟨bc, 0, none⟩)) (hx9 : x 9 = .int .i64 n) (hx10 : x 10 = .pointer (some ⟨pA, 0, none⟩)) (hx15 : x 15 = .slice (some ⟨bf, 0, none⟩) n n) (hx16 : x 16 = .slice (some ⟨be, 0, none⟩) M M) (hx17 : x 17 = va) (hx18 : x 18 = .bool true) (hx19 : x 19 = .int .i64 i) (hx20 : x 20 = .pointer (some ⟨q20, 0, none⟩)) (hx21 : x 21 = .pointer (some ⟨q21, 0, none⟩)) (hx22 : x 22 = .pointer (some ⟨q22, 0, none⟩)) (hx23 : x 23 = .pointer (some ⟨pg, 0, none⟩)) (hx24 : x 24 = .int .i64 0) {base k : Nat} {xs : List Value} (hr : Rw 33 1 base wt va k xs) (hb : base ≤ wt.heap.size) (hk : k < 10)
    (hQ : ∀ a' w' va', FrX [(0, .slice (some ⟨bh, oh, none⟩) n ch), (1, .slice (some ⟨bd, od, none⟩) M cd), (2, .slice bo K co), (7, .pointer (some ⟨bc, 0, none⟩)), (9, .int .i64 n), (10, .pointer (some ⟨pA, 0, none⟩)), (15, .slice (some ⟨bf, 0, none⟩) n n), (16, .slice (some ⟨be, 0, none⟩) M M), (17, va'), (18, .bool true), (19, .int .i64 i), (20, .pointer (some ⟨q20, 0, none⟩)), (21, .pointer (some ⟨q21, 0, none⟩)), (22, .pointer (some ⟨q22, 0, none⟩)), (23, .pointer (some ⟨pg, 0, none⟩)), (24, .int .i64 0)] a' → Rw 33 1 base w' va' (k + 1) (xs ++ [.pointer (some ⟨pg, 0, none⟩)]) → (∀ b ∈ blk va', b ∈ blk va ∨ wt.heap.size ≤ b) → Ks (fun b => b ∈ blk va) wt w' → Q .normal a' w') : (soQ26 Try.f5).wp Try.prog Q ⟨T318 x, []⟩ wt := by
  obtain ⟨gb, cap, w6, hrun, hrw, hkp, hgb2⟩ := run_app (t := 30) (ty := 30) (bytes := 8) (w := wt.alloc (.cells #[.pointer (some ⟨pg, 0, none⟩)] 33)) Try.underlying30 info_agent (by decide) (hr.keep0 ((Kp.refl [] wt).alloc _)) (by rw [World.size_alloc]; omega) ⟨wt.heap.size, 0, none⟩ 1 1 [.pointer (some ⟨pg, 0, none⟩)] rfl (fun j u hj => by
      rcases j with _ | j
      · obtain rfl := Option.some.inj hj
        exact cell_of_row (heap_alloc_new wt _) 0
      · simp at hj) (by simp [Value.oneCell']) (by decide) (by omega) (by decide)
  have HRun := Lib.hid hrun
  have HRw := Lib.hid hrw
  have HKp := Lib.hid hkp
  have HQ := Lib.hid hQ
  clear hrun hrw hkp hQ hr
  simp only [soQ26, soX2, soB2, soR10, bodyOf, Try.f5, codeL, codeR, blockOf, loopOf, Option.getD_some, T318]
  simp only [hx0, hx1, hx2, hx7, hx9, hx10, hx15, hx16, hx17, hx18, hx19, hx20, hx21, hx22, hx23, hx24]
  go_wp2_with (at_builtin; refine wpList_append_eq rfl (.tmp 133) (.tmp 135) 30 rfl _ _ _ rfl rfl HRun.out ?_)
  refine HQ.out _ _ (.slice (some ⟨gb, 0, none⟩) (k + 1) cap) ⟨rfl, rfl, ⟨rfl, rfl, rfl, rfl, rfl, rfl, rfl, rfl, rfl, rfl, rfl, rfl, rfl, rfl, rfl, rfl, trivial⟩⟩ HRw.out (fun b hb => ?_) ((ks_alloc (fun b => b ∈ blk va) wt _).trans (ks_of_kp HKp.out))
  rw [blk_some, List.mem_singleton] at hb
  rw [hb]
  rcases hgb2 with z | z
  · exact .inl z
  · exact .inr (by rw [z, World.size_alloc]; omega)
end

end Go.Proofs.Ytnbibpmhmffmpaa

namespace Go.Proofs.Ytnbibpmhmffmpaa
set_option linter.unusedVariables false
set_option linter.unusedSimpArgs false
set_option maxRecDepth 100000
open Go.RowKit
open Go.Conc
open Go.ConcN (upd_ne upd_same)

def soQ24 (f : Func) : Code := codeL (codeR (codeR (codeR (soB2 f))))
def ptrs (ag : Nat → Ag) (k : Nat) : List Value := (List.range k).map fun j => .pointer (some ⟨(ag j).p, 0, none⟩)
theorem ptrs_succ (ag : Nat → Ag) (k : Nat) (a : Ag) : ptrs (fun j => if j = k then a else ag j) (k + 1) = ptrs ag k ++ [.pointer (some ⟨a.p, 0, none⟩)] := by
  simp only [ptrs, List.range_succ, List.map_append, List.map_cons, List.map_nil, if_true]
  congr 1
  apply List.map_congr_left
  intro j hj
  rw [if_neg (by have := List.mem_range.1 hj; omega)]
theorem priv_rw (T : TypeId) (sz base : Nat) (v : Value) (n : Nat) (xs : List Value) : Priv (fun b => b ∈ blk v) (fun w => Rw T sz base w v n xs) := by
  refine ⟨fun w w' h hb => ⟨h.own.1, ?_⟩, fun w b h hb => ?_, fun w b h hb => ?_⟩
  · rcases h.own.2 with h0 | ⟨b, c, cur, rfl, hge, hbk, r⟩
    · exact .inl h0
    · exact .inr ⟨b, c, cur, rfl, hge, (hb b (by simp [blk_some])).trans hbk, r⟩
  · obtain ⟨_, cur, hc⟩ := h.block b hb
    rw [hc]; rfl
  · obtain ⟨_, cur, hc⟩ := h.block b hb
    exact lt_of_block hc
/-- What stands while the agents are made. -/
structure SoW (Post : Value → World → Prop) (W : World) (pA rA be bc bf M n : Nat) (cc : Int) (ws0 : List Int) (k : Nat) (ag : Nat → Ag) (dl : Nat → Int) (va : Value) (pl : Nat → Option Place) (F : Nat → Option (Nat × Nat)) (col : Nat → Col) (w : World) (g : List Int) (s : St) : Prop where
  crew : Crew Post (onceSh be bc M cc) (fun b => b = be ∨ b = bc) pA rA (memV pA) 1 k ag (fun j => otree (dl j % n) cc j (dl j)) pl F col w g
  ar : Ar w pA rA s
  row : w.heap[bf]? = some (.cells (u64s ws0) 40 (0, 0))
  rowc : col bf = .main
  all : Rw 33 1 W.heap.size w va k (ptrs ag k)
  allc : ∀ b ∈ blk va, col b = .main
  apart : bf ∉ blk va
  old : ∀ b, b < W.heap.size → col b = .main
  ks : Ks (fun _ => False) W w
section
variable {Post : Value → World → Prop} {W : World} {pA rA be bc bf M n k : Nat} {cc : Int} {ws0 : List Int} {ag : Nat → Ag} {dl : Nat → Int} {va : Value} {pl : Nat → Option Place} {F : Nat → Option (Nat × Nat)} {col : Nat → Col} {w w' : World} {g : List Int} {s : St}
theorem SoW.made (A : SoW Post W pA rA be bc bf M n cc ws0 k ag dl va pl F col w g s) (D : Desk (fun b => b = be ∨ b = bc) pA rA pl F col w') (ks : Ks (fun _ => False) w w') : SoW Post W pA rA be bc bf M n cc ws0 k ag dl va pl F col w' g s :=
  ⟨A.crew.keep D ks (fun _ _ z => z.elim) ((priv_once be bc M cc g).st _ _ A.crew.sh fun b hb => ks.block b ((priv_once be bc M cc g).lt _ _ A.crew.sh hb) fun z => z), ⟨ks.row (fun z => z) A.ar.hp, ks.row (fun z => z) A.ar.hr⟩, ks.row (fun z => z) A.row, A.rowc, (priv_rw _ _ _ _ _ _).st _ _ A.all fun b hb => ks.block b ((priv_rw _ _ _ _ _ _).lt _ _ A.all hb) fun z => z, A.allc, A.apart, A.old, A.ks.trans ks⟩

theorem win_slots {Post : Value → World → Prop} {pl : Nat → Option Place} {N h : Nat} {b : Frame} {t : Array Value} {k : List Item} {cs : List Frame} {w : World} {K : List (Nat × Value)} (hz : t.size = 318) (hK : HasX (fun j => t.getD j undef) K) (H : ∀ x, HasX x K → Win Try.prog Post pl N h (gor (b.at ⟨T318 x, []⟩ k) cs) w) : Win Try.prog Post pl N h (gor (b.at ⟨t, []⟩ k) cs) w := by
  rw [arr318 t hz]
  exact H _ hK

/-- Who steps makes one block. -/
theorem desk_new {SB : Nat → Prop} {N : Nat} (D : Desk SB pA rA pl F col w) {cs0 : Nat → Array Value} {t : TypeId} {K' : Nat → List (Nat × Value)} {b : Frame} {x : Nat → Value} {k : List Item} {cs : List Frame} {c : Code}
    (hok : StOK Try.prog (b.at ⟨T318 x, []⟩ (.code c :: k)) [])
    (hc : ∀ (wt : World) (Q : Exit → Act → World → Prop), wt.heap.size = w.heap.size → (∀ ad, wt.cell? ad = w.cell? ad) → (∀ a' w', FrX (K' wt.heap.size) a' → w'.heap[wt.heap.size]? = some (.cells (cs0 wt.heap.size) t (0, 0)) → Kp [] wt w' → Q .normal a' w') → c.wp Try.prog Q ⟨T318 x, []⟩ wt)
    (H : ∀ (x' : Nat → Value) w', HasX x' (K' w.heap.size) → w'.heap[w.heap.size]? = some (.cells (cs0 w.heap.size) t (0, 0)) → Ks (fun _ => False) w w' → Desk SB pA rA pl F col w' → Win Try.prog Post pl N 0 (gor (b.at ⟨T318 x', []⟩ k) cs) w') :
    Win Try.prog Post pl N 0 (gor (b.at ⟨T318 x, []⟩ (.code c :: k)) cs) w := by
  refine D.piece (own := fun _ => False) (S := fun _ => False) (A := fun _ => True) (Priv.const True) trivial (fun _ h => h.elim) (ι := Unit) (own' := fun _ => (· = w.heap.size)) (A' := fun _ w' => w'.heap[w.heap.size]? = some (.cells (cs0 w.heap.size) t (0, 0))) (fun _ => Priv.row _ _ _ _) (K' := fun _ => K' w.heap.size) hok (fun wt Q _ h2 h3 hQ => hc wt Q h2 h3 fun a' w' hf hr hk => ?_) fun x' _ w' _ hx hr hk D => H x' w' hx hr hk D
  rw [h2] at hf hr
  exact hQ a' () w' (fun y hy => .inr (by have hy' : y = w.heap.size := hy; have := lt_of_block hr; omega)) hf hr ((ks_of_kp hk).mono fun _ _ z => by simp at z)
theorem desk_still {SB : Nat → Prop} {N : Nat} (D : Desk SB pA rA pl F col w) {K' : List (Nat × Value)} {b : Frame} {x : Nat → Value} {k : List Item} {cs : List Frame} {c : Code}
    (hok : StOK Try.prog (b.at ⟨T318 x, []⟩ (.code c :: k)) [])
    (hc : ∀ (wt : World) (Q : Exit → Act → World → Prop), (∀ a', FrX K' a' → Q .normal a' wt) → c.wp Try.prog Q ⟨T318 x, []⟩ wt)
    (H : ∀ (x' : Nat → Value) w', HasX x' K' → Ks (fun _ => False) w w' → Desk SB pA rA pl F col w' → Win Try.prog Post pl N 0 (gor (b.at ⟨T318 x', []⟩ k) cs) w') :
    Win Try.prog Post pl N 0 (gor (b.at ⟨T318 x, []⟩ (.code c :: k)) cs) w :=
  D.piece (own := fun _ => False) (S := fun _ => False) (A := fun _ => True) (Priv.const True) trivial (fun _ h => h.elim) (ι := Unit) (own' := fun _ _ => False) (A' := fun _ _ => True) (fun _ => Priv.const True) (K' := fun _ => K') hok (fun wt Q _ _ _ hQ => hc wt Q fun a' hf => hQ a' () wt (fun y hy => hy.elim) hf trivial (Ks.refl _ _)) fun x' _ w' _ hx _ hk D => H x' w' hx hk D

set_option maxHeartbeats 4000000 in
theorem so_body2 {args : Array Value} {x : Nat → Value} {bh oh ch bd od cd K co : Nat} {bo : Option Addr} {d : Int} (A : SoW Post W pA rA be bc bf M n cc ws0 k ag dl va pl F col w g s) (hx : HasX x [(0, .slice (some ⟨bh, oh, none⟩) n ch), (1, .slice (some ⟨bd, od, none⟩) M cd), (2, .slice bo K co), (7, .pointer (some ⟨bc, 0, none⟩)), (9, .int .i64 n), (10, .pointer (some ⟨pA, 0, none⟩)), (15, .slice (some ⟨bf, 0, none⟩) n n), (16, .slice (some ⟨be, 0, none⟩) M M), (17, va), (18, .bool true), (19, .int .i64 k)]) (hk : k < M) (hM4 : M ≤ 4) (hn1 : 1 ≤ n) (hn4 : n ≤ 4) (h0c : 0 ≤ cc) (hc1 : cc ≤ 1) (hbe : bc ≠ be) (hd : 0 ≤ d ∧ d ≤ 255) (hcl : w.cell? ⟨bd, od + k, none⟩ = some (.int .u8 d))
    (H : ∀ a va' pl' F' col' w' (x' : Nat → Value), SoW Post W pA rA be bc bf M n cc ws0 (k + 1) (fun j => if j = k then a else ag j) (fun j => if j = k then d else dl j) va' pl' F' col' w' (if 127 < d then g else g.set k 1) s → HasX x' [(0, .slice (some ⟨bh, oh, none⟩) n ch), (1, .slice (some ⟨bd, od, none⟩) M cd), (2, .slice bo K co), (7, .pointer (some ⟨bc, 0, none⟩)), (9, .int .i64 n), (10, .pointer (some ⟨pA, 0, none⟩)), (15, .slice (some ⟨bf, 0, none⟩) n n), (16, .slice (some ⟨be, 0, none⟩) M M), (17, va'), (18, .bool true), (19, .int .i64 ((k + 1 : Nat) : Int))] →
      Win Try.prog Post pl' (1 + k + 1) 0 (gor ((Frame.enter Try.prog 5 args .normal).at ⟨T318 x', []⟩ (soK2 Try.f5)) []) w') :
    Win Try.prog Post pl (1 + k) 0 (gor ((Frame.enter Try.prog 5 args .normal).at ⟨T318 x, []⟩ (.code (soX2 Try.f5) :: soK2 Try.f5)) []) w := by
  have hb : (Frame.enter Try.prog 5 args .normal).kind = .normal := rfl
  have e19 : soX2 Try.f5 = .seq (soQ19 Try.f5) (.seq (.block 3 (soB2 Try.f5)) (soQ20 Try.f5)) := by kernel_rfl
  have e21 : soB2 Try.f5 = .seq (soQ21 Try.f5) (codeR (soB2 Try.f5)) := by kernel_rfl
  have e22 : codeR (soB2 Try.f5) = .seq (soQ22 Try.f5) (codeR (codeR (soB2 Try.f5))) := by kernel_rfl
  have e23 : codeR (codeR (soB2 Try.f5)) = .seq (soQ23 Try.f5) (codeR (codeR (codeR (soB2 Try.f5)))) := by kernel_rfl
  have e25 : codeR (codeR (codeR (codeR (soB2 Try.f5)))) = .seq (soQ25 Try.f5) (soQ26 Try.f5) := by kernel_rfl
  obtain ⟨hx0, hx1, hx2, hx7, hx9, hx10, hx15, hx16, hx17, hx18, hx19, -⟩ := hx
  rw [show (Item.code (soX2 Try.f5) :: soK2 Try.f5) = .code (.seq (soQ19 Try.f5) (.seq (.block 3 (soB2 Try.f5)) (soQ20 Try.f5))) :: soK2 Try.f5 by rw [← e19]]
  refine Win.seq ?_
  refine desk_still A.crew.desk (stok_at rfl rfl (by simp) (by kernel_rfl)) (fun wt Q hQ => so_q19 hx0 hx1 hx2 hx7 hx9 hx10 hx15 hx16 hx17 hx18 hx19 hk hM4 hQ) fun x1 w1 hx k1 D1 => ?_
  have A1 := A.made D1 k1
  clear hx0 hx1 hx2 hx7 hx9 hx10 hx15 hx16 hx17 hx18 hx19
  obtain ⟨hx0, hx1, hx2, hx7, hx9, hx10, hx15, hx16, hx17, hx18, hx19, -⟩ := hx
  refine Win.seq ?_
  refine Win.block ?_
  rw [e21]
  refine Win.seq ?_
  have hcl1 : w1.cell? ⟨bd, od + k, none⟩ = some (.int .u8 d) := (World.cell?_of_block (k1.block _ (World.block_lt_of_cell? _ _ hcl) fun z => z)).trans hcl
  refine desk_new D1 (cs0 := fun _ => #[.int .u8 d]) (t := 5) (K' := fun q20 => [(0, .slice (some ⟨bh, oh, none⟩) n ch), (1, .slice (some ⟨bd, od, none⟩) M cd), (2, .slice bo K co), (7, .pointer (some ⟨bc, 0, none⟩)), (9, .int .i64 n), (10, .pointer (some ⟨pA, 0, none⟩)), (15, .slice (some ⟨bf, 0, none⟩) n n), (16, .slice (some ⟨be, 0, none⟩) M M), (17, va), (18, .bool true), (19, .int .i64 k), (20, .pointer (some ⟨q20, 0, none⟩))]) (stok_at rfl rfl (by simp) (by kernel_rfl)) (fun wt Q hz hcell hQ => so_q21 hx0 hx1 hx2 hx7 hx9 hx10 hx15 hx16 hx17 hx18 hx19 hk hM4 ((hcell _).trans hcl1) hQ) fun x2 w2 hx r20 k2 D2 => ?_
  have A2 := A1.made D2 k2
  obtain ⟨q20, hq20⟩ : ∃ q20, q20 = w1.heap.size := ⟨_, rfl⟩
  rw [← hq20] at hx r20
  clear hx0 hx1 hx2 hx7 hx9 hx10 hx15 hx16 hx17 hx18 hx19
  obtain ⟨hx0, hx1, hx2, hx7, hx9, hx10, hx15, hx16, hx17, hx18, hx19, hx20, -⟩ := hx
  rw [e22]
  refine Win.seq ?_
  refine desk_new D2 (cs0 := fun _ => #[.int .i64 (d % n)]) (t := 3) (K' := fun q21 => [(0, .slice (some ⟨bh, oh, none⟩) n ch), (1, .slice (some ⟨bd, od, none⟩) M cd), (2, .slice bo K co), (7, .pointer (some ⟨bc, 0, none⟩)), (9, .int .i64 n), (10, .pointer (some ⟨pA, 0, none⟩)), (15, .slice (some ⟨bf, 0, none⟩) n n), (16, .slice (some ⟨be, 0, none⟩) M M), (17, va), (18, .bool true), (19, .int .i64 k), (20, .pointer (some ⟨q20, 0, none⟩)), (21, .pointer (some ⟨q21, 0, none⟩))]) (stok_at rfl rfl (by simp) (by kernel_rfl)) (fun wt Q hz hcell hQ => so_q22 hx0 hx1 hx2 hx7 hx9 hx10 hx15 hx16 hx17 hx18 hx19 hx20 hn1 hn4 hd ((hcell _).trans ((cell_of_row r20 0).trans rfl)) hQ) fun x3 w3 hx r21 k3 D3 => ?_
  have A3 := A2.made D3 k3
  obtain ⟨q21, hq21⟩ : ∃ q21, q21 = w2.heap.size := ⟨_, rfl⟩
  rw [← hq21] at hx r21
  clear hx0 hx1 hx2 hx7 hx9 hx10 hx15 hx16 hx17 hx18 hx19 hx20
  obtain ⟨hx0, hx1, hx2, hx7, hx9, hx10, hx15, hx16, hx17, hx18, hx19, hx20, hx21, -⟩ := hx
  rw [e23]
  refine Win.seq ?_
  refine desk_new D3 (cs0 := fun _ => #[.pointer (some ⟨be, k, none⟩)]) (t := 62) (K' := fun q22 => [(0, .slice (some ⟨bh, oh, none⟩) n ch), (1, .slice (some ⟨bd, od, none⟩) M cd), (2, .slice bo K co), (7, .pointer (some ⟨bc, 0, none⟩)), (9, .int .i64 n), (10, .pointer (some ⟨pA, 0, none⟩)), (15, .slice (some ⟨bf, 0, none⟩) n n), (16, .slice (some ⟨be, 0, none⟩) M M), (17, va), (18, .bool true), (19, .int .i64 k), (20, .pointer (some ⟨q20, 0, none⟩)), (21, .pointer (some ⟨q21, 0, none⟩)), (22, .pointer (some ⟨q22, 0, none⟩))]) (stok_at rfl rfl (by simp) (by kernel_rfl)) (fun wt Q hz hcell hQ => so_q23 hx0 hx1 hx2 hx7 hx9 hx10 hx15 hx16 hx17 hx18 hx19 hx20 hx21 hk hM4 hQ) fun x4 w4 hx r22 k4 D4 => ?_
  have A4 := A3.made D4 k4
  obtain ⟨q22, hq22⟩ : ∃ q22, q22 = w3.heap.size := ⟨_, rfl⟩
  rw [← hq22] at hx r22
  clear hx0 hx1 hx2 hx7 hx9 hx10 hx15 hx16 hx17 hx18 hx19 hx20 hx21
  obtain ⟨hx0, hx1, hx2, hx7, hx9, hx10, hx15, hx16, hx17, hx18, hx19, hx20, hx21, hx22, -⟩ := hx
  have r20 := (k3.trans k4).row (fun z => z) r20
  have r21 := k4.row (fun z => z) r21
  have z1 := k1.size
  have z2 := k2.size
  have z3 := k3.size
  have z4 := k4.size
  have hL := A.crew.desk.lay
  have c20 : col q20 = .main := hL.above q20 (by omega)
  have c21 : col q21 = .main := hL.above q21 (by omega)
  have c22 : col q22 = .main := hL.above q22 (by omega)
  have e24 : codeR (codeR (codeR (soB2 Try.f5))) = .seq (soQ24 Try.f5) (codeR (codeR (codeR (codeR (soB2 Try.f5))))) := by kernel_rfl
  rw [e24]
  refine Win.seq ?_
  rw [e25]
  generalize hC : Code.seq (soQ25 Try.f5) (soQ26 Try.f5) = C4
  generalize hK : soK2 Try.f5 = KK
  generalize hQ20 : soQ20 Try.f5 = Q20
  have hlt : ∀ b ∈ blk va, b < w.heap.size := fun b hb => (priv_rw _ _ _ _ _ _).lt _ _ A.all hb
  have hbf := lt_of_block A.row
  simp only [soQ24, soX2, soB2, soR10, bodyOf, Try.f5, codeL, codeR, blockOf, loopOf, Option.getD_some, T318]
  simp only [hx0, hx1, hx2, hx7, hx9, hx10, hx15, hx16, hx17, hx18, hx19, hx20, hx21, hx22]
  refine Win.region ?_
  simp only [List.size_toArray, List.length_cons, List.length_nil, Nat.reduceAdd, List.range, List.range.loop]
  refine Win.pureOp (v := .pointer (some ⟨pA, 0, none⟩)) (.inl hb) rfl rfl (fun w => by rw [Sem.runT_eq]; simp [go_sem, execOp, Act.eval]; try (first | omega | rfl | exact ⟨rfl, rfl⟩ | kernel_rfl)) ?_
  simp only [Act.put, Act.eval, List.getElem?_toArray, List.getElem?_cons_zero, List.getElem?_cons_succ, Option.bind_some, List.getElem_toArray, List.getElem_cons_zero, List.getElem_cons_succ, List.setIfInBounds_toArray, List.set_cons_succ, List.set_cons_zero]
  refine Win.pureOp (v := .iface 26 (.pointer (some ⟨pA, 0, none⟩))) (.inl hb) rfl rfl (fun w => by rw [Sem.runT_eq]; simp [go_sem, execOp, Act.eval]; try (first | omega | rfl | exact ⟨rfl, rfl⟩ | kernel_rfl)) ?_
  simp only [Act.put, Act.eval, List.getElem?_toArray, List.getElem?_cons_zero, List.getElem?_cons_succ, Option.bind_some, List.getElem_toArray, List.getElem_cons_zero, List.getElem_cons_succ, List.setIfInBounds_toArray, List.set_cons_succ, List.set_cons_zero]
  refine Win.pureOp (v := .func (.func 23) #[] #[.pointer (some ⟨q20, 0, none⟩), .pointer (some ⟨q21, 0, none⟩), .pointer (some ⟨q22, 0, none⟩), .pointer (some ⟨bc, 0, none⟩)]) (.inl hb) rfl rfl (fun w => by rw [Sem.runT_eq]; simp [go_sem, execOp, Act.eval]; try (first | omega | rfl | exact ⟨rfl, rfl⟩ | kernel_rfl)) ?_
  simp only [Act.put, Act.eval, List.getElem?_toArray, List.getElem?_cons_zero, List.getElem?_cons_succ, Option.bind_some, List.getElem_toArray, List.getElem_cons_zero, List.getElem_cons_succ, List.setIfInBounds_toArray, List.set_cons_succ, List.set_cons_zero]
  refine Win.enter (f := 11) (args := #[.iface 26 (.pointer (some ⟨pA, 0, none⟩)), .func (.func 23) #[] #[.pointer (some ⟨q20, 0, none⟩), .pointer (some ⟨q21, 0, none⟩), .pointer (some ⟨q22, 0, none⟩), .pointer (some ⟨bc, 0, none⟩)]]) (.inl hb) rfl rfl (fun d => ⟨#[], call_enter mild.toMild Try.func11 rfl rfl rfl rfl _ _ (by simp [Act.eval]), fun e he => by simp at he⟩) ?_
  refine A4.crew.news (own0 := fun b => (b = q20 ∨ b = q21) ∨ b = q22) (A0 := fun w => (w.heap[q20]? = some (.cells #[.int .u8 d] 5 (0, 0)) ∧ w.heap[q21]? = some (.cells #[.int .i64 (d % n)] 3 (0, 0))) ∧ w.heap[q22]? = some (.cells #[.pointer (some ⟨be, k, none⟩)] 62 (0, 0))) (priv_once be bc M cc) (((Priv.row q20 _ _ _).and (Priv.row q21 _ _ _)).and (Priv.row q22 _ _ _)) (fun b hb => by rcases hb with (rfl | rfl) | rfl <;> assumption) ⟨⟨r20, r21⟩, r22⟩ (mt := 26) (mval := .pointer (some ⟨pA, 0, none⟩)) rfl Try.func23 rfl (T0 := otree (d % n) cc k d) (g1 := if 127 < d then g else g.set k 1) (fun a home pl' F' col' w' b1 b2 hj hAc hBx hc1' hc2' ho hA0 hs K' => ?_) (fun a pl5 F5 col5 w5 C5 ks5 sm5 hap => ?_)
  · exact once_runs (SB := fun b => b = be ∨ b = bc) (.inl rfl) hbe hk rfl h0c hc1 (priv_once be bc M cc) hAc (fun b hb => by
      rw [hj]
      rcases hb with (rfl | rfl) | rfl | (rfl | rfl)
      · exact ho _ (.inl (.inl rfl))
      · exact ho _ (.inl (.inr rfl))
      · exact ho _ (.inr rfl)
      · exact hc1'
      · exact hc2') ⟨⟨hA0.1.1, hA0.1.2⟩, hA0.2, hBx⟩ hs K'
  rw [Frame.finish_at]
  simp only [Act.put, Act.eval, List.getElem?_toArray, List.getElem?_cons_zero, List.getElem?_cons_succ, Option.bind_some, List.getElem_toArray, List.getElem_cons_zero, List.getElem_cons_succ, List.setIfInBounds_toArray, List.set_cons_succ, List.set_cons_zero]
  refine Win.pureOp (v := .tuple #[.pointer (some ⟨a.p, 0, none⟩), .int .i64 0]) (.inl hb) rfl rfl (fun w => by rw [Sem.runT_eq]; simp [go_sem, execOp, Act.eval]; try (first | omega | rfl | exact ⟨rfl, rfl⟩ | kernel_rfl)) ?_
  simp only [Act.put, Act.eval, List.getElem?_toArray, List.getElem?_cons_zero, List.getElem?_cons_succ, Option.bind_some, List.getElem_toArray, List.getElem_cons_zero, List.getElem_cons_succ, List.setIfInBounds_toArray, List.set_cons_succ, List.set_cons_zero]
  refine Win.pureOp (v := .pointer (some ⟨a.p, 0, none⟩)) (.inl hb) rfl rfl (fun w => by rw [Sem.runT_eq]; simp [go_sem, execOp, Act.eval]; try (first | omega | rfl | exact ⟨rfl, rfl⟩ | kernel_rfl)) ?_
  simp only [Act.put, Act.eval, List.getElem?_toArray, List.getElem?_cons_zero, List.getElem?_cons_succ, Option.bind_some, List.getElem_toArray, List.getElem_cons_zero, List.getElem_cons_succ, List.setIfInBounds_toArray, List.set_cons_succ, List.set_cons_zero]
  refine Win.pureOp (v := .int .i64 0) (.inl hb) rfl rfl (fun w => by rw [Sem.runT_eq]; simp [go_sem, execOp, Act.eval]; try (first | omega | rfl | exact ⟨rfl, rfl⟩ | kernel_rfl)) ?_
  simp only [Act.put, Act.eval, List.getElem?_toArray, List.getElem?_cons_zero, List.getElem?_cons_succ, Option.bind_some, List.getElem_toArray, List.getElem_cons_zero, List.getElem_cons_succ, List.setIfInBounds_toArray, List.set_cons_succ, List.set_cons_zero]
  refine Win.pureOp (v := .pointer (some ⟨a.p, 0, none⟩)) (.inl hb) rfl rfl (fun w => by rw [Sem.runT_eq]; simp [go_sem, execOp, Act.eval]; try (first | omega | rfl | exact ⟨rfl, rfl⟩ | kernel_rfl)) ?_
  simp only [Act.put, Act.eval, List.getElem?_toArray, List.getElem?_cons_zero, List.getElem?_cons_succ, Option.bind_some, List.getElem_toArray, List.getElem_cons_zero, List.getElem_cons_succ, List.setIfInBounds_toArray, List.set_cons_succ, List.set_cons_zero]
  refine Win.pureOp (v := .int .i64 0) (.inl hb) rfl rfl (fun w => by rw [Sem.runT_eq]; simp [go_sem, execOp, Act.eval]; try (first | omega | rfl | exact ⟨rfl, rfl⟩ | kernel_rfl)) ?_
  simp only [Act.put, Act.eval, List.getElem?_toArray, List.getElem?_cons_zero, List.getElem?_cons_succ, Option.bind_some, List.getElem_toArray, List.getElem_cons_zero, List.getElem_cons_succ, List.setIfInBounds_toArray, List.set_cons_succ, List.set_cons_zero]
  refine Win.opsEnd ?_
  refine win_slots (K := [(0, .slice (some ⟨bh, oh, none⟩) n ch), (1, .slice (some ⟨bd, od, none⟩) M cd), (2, .slice bo K co), (7, .pointer (some ⟨bc, 0, none⟩)), (9, .int .i64 n), (10, .pointer (some ⟨pA, 0, none⟩)), (15, .slice (some ⟨bf, 0, none⟩) n n), (16, .slice (some ⟨be, 0, none⟩) M M), (17, va), (18, .bool true), (19, .int .i64 k), (20, .pointer (some ⟨q20, 0, none⟩)), (21, .pointer (some ⟨q21, 0, none⟩)), (22, .pointer (some ⟨q22, 0, none⟩)), (23, .pointer (some ⟨a.p, 0, none⟩)), (24, .int .i64 0)]) rfl ⟨rfl, rfl, rfl, rfl, rfl, rfl, rfl, rfl, rfl, rfl, rfl, rfl, rfl, rfl, rfl, rfl, trivial⟩ fun x5 hx => ?_
  subst hC hK hQ20
  clear hx0 hx1 hx2 hx7 hx9 hx10 hx15 hx16 hx17 hx18 hx19 hx20 hx21 hx22
  obtain ⟨hx0, hx1, hx2, hx7, hx9, hx10, hx15, hx16, hx17, hx18, hx19, hx20, hx21, hx22, hx23, hx24, -⟩ := hx
  have hno : ∀ b, b < w.heap.size → ¬ ((b = q20 ∨ b = q21) ∨ b = q22) := fun b hb z => by omega
  have hcr : (fun j => if j = k then otree (d % n) cc k d else otree (dl j % n) cc j (dl j)) = fun j => otree ((if j = k then d else dl j) % n) cc j (if j = k then d else dl j) := by
    funext j
    by_cases e : j = k
    · subst e; simp
    · simp [e]
  rw [hcr] at C5
  have nsh : ∀ b, b < w.heap.size → (col b = .main ∨ col b = .arena) → ¬ (((b = q20 ∨ b = q21) ∨ b = q22) ∨ col b = .shared) := fun b hb h z => by
    rcases z with z | z
    · exact hno b hb z
    · rcases h with h | h <;> rw [h] at z <;> cases z
  have lar := A.ar.lt
  have ar5 : Ar w5 pA rA s := ⟨ks5.row (nsh pA lar.1 (.inr hL.ar.1)) A4.ar.hp, ks5.row (nsh rA lar.2 (.inr hL.ar.2)) A4.ar.hr⟩
  have row5 := ks5.row (nsh bf hbf (.inl A.rowc)) A4.row
  have hzw : w.heap.size ≤ w4.heap.size := by omega
  have rowc5 : col5 bf = .main := (sm5 bf (by omega) (hno bf hbf) (.inl A.rowc)).trans A.rowc
  have all5 : Rw 33 1 W.heap.size w5 va k (ptrs ag k) := (priv_rw _ _ _ _ _ _).st _ _ A4.all fun b hb => ks5.block b (by have := hlt b hb; omega) (nsh b (hlt b hb) (.inl (A.allc b hb)))
  have allc5 : ∀ b ∈ blk va, col5 b = .main := fun b hb => (sm5 b (by have := hlt b hb; omega) (hno b (hlt b hb)) (.inl (A.allc b hb))).trans (A.allc b hb)
  have hWw := A.ks.size
  have old5 : ∀ b, b < W.heap.size → col5 b = .main := fun b hb => (sm5 b (by omega) (hno b (by omega)) (.inl (A.old b hb))).trans (A.old b hb)
  have ksW5 : Ks (fun _ => False) W w5 := A4.ks.then ks5 fun b hb z => nsh b (by omega) (.inl (A.old b hb)) z
  refine Win.seq ?_
  refine desk_still C5.desk (stok_at rfl rfl (by simp) (by kernel_rfl)) (fun wt Q hQ => so_q25 hx0 hx1 hx2 hx7 hx9 hx10 hx15 hx16 hx17 hx18 hx19 hx20 hx21 hx22 hx23 hx24 hQ) fun x6 w6 hx k6 D6 => ?_
  clear hx0 hx1 hx2 hx7 hx9 hx10 hx15 hx16 hx17 hx18 hx19 hx20 hx21 hx22 hx23 hx24
  obtain ⟨hx0, hx1, hx2, hx7, hx9, hx10, hx15, hx16, hx17, hx18, hx19, hx20, hx21, hx22, hx23, hx24, -⟩ := hx
  have C6 := C5.keep D6 k6 (fun _ _ z => z.elim) ((priv_once be bc M cc _).st _ _ C5.sh fun b hb => k6.block b ((priv_once be bc M cc _).lt _ _ C5.sh hb) fun z => z)
  have ar6 : Ar w6 pA rA s := ⟨k6.row (fun z => z) ar5.hp, k6.row (fun z => z) ar5.hr⟩
  have row6 := k6.row (fun z => z) row5
  have all6 : Rw 33 1 W.heap.size w6 va k (ptrs ag k) := (priv_rw _ _ _ _ _ _).st _ _ all5 fun b hb => k6.block b ((priv_rw _ _ _ _ _ _).lt _ _ all5 hb) fun z => z
  have ksW6 := ksW5.trans k6
  have hW6 := ksW6.size
  have hbf6 := lt_of_block row6
  refine C6.desk.piece (own := fun b => b ∈ blk va) (S := fun b => b ∈ blk va) (A := fun w => Rw 33 1 W.heap.size w va k (ptrs ag k)) (priv_rw _ _ _ _ _ _) all6 (fun b hb => by rw [allc5 b hb]; rfl) (ι := {v : Value // ∀ b ∈ blk v, b ∈ blk va ∨ w6.heap.size ≤ b}) (own' := fun v b => b ∈ blk v.1) (A' := fun v w => Rw 33 1 W.heap.size w v.1 (k + 1) (ptrs ag k ++ [.pointer (some ⟨a.p, 0, none⟩)])) (fun v => priv_rw _ _ _ _ _ _) (K' := fun v => [(0, .slice (some ⟨bh, oh, none⟩) n ch), (1, .slice (some ⟨bd, od, none⟩) M cd), (2, .slice bo K co), (7, .pointer (some ⟨bc, 0, none⟩)), (9, .int .i64 n), (10, .pointer (some ⟨pA, 0, none⟩)), (15, .slice (some ⟨bf, 0, none⟩) n n), (16, .slice (some ⟨be, 0, none⟩) M M), (17, v.1), (18, .bool true), (19, .int .i64 k), (20, .pointer (some ⟨q20, 0, none⟩)), (21, .pointer (some ⟨q21, 0, none⟩)), (22, .pointer (some ⟨q22, 0, none⟩)), (23, .pointer (some ⟨a.p, 0, none⟩)), (24, .int .i64 0)]) (stok_at rfl rfl (by simp) (by kernel_rfl)) (fun wt Q h1 h2 _ hQ => so_q26 hx0 hx1 hx2 hx7 hx9 hx10 hx15 hx16 hx17 hx18 hx19 hx20 hx21 hx22 hx23 hx24 h1 (by omega) (by omega) fun a' w' va' hf hr hv hk' => hQ a' ⟨va', by rw [← h2]; exact hv⟩ w' (fun y hy => (hv y hy).imp id fun z => ⟨z, (priv_rw _ _ _ _ _ _).lt _ _ hr hy⟩) hf hr hk') ?_
  rintro x7 ⟨vn, hvn⟩ w7 _ hx hrw ks7 D7
  clear hx0 hx1 hx2 hx7 hx9 hx10 hx15 hx16 hx17 hx18 hx19 hx20 hx21 hx22 hx23 hx24
  obtain ⟨hx0, hx1, hx2, hx7, hx9, hx10, hx15, hx16, hx17, hx18, hx19, hx20, hx21, hx22, hx23, hx24, -⟩ := hx
  simp only at hrw
  have C7 := C6.keep D7 ks7 (fun b _ hb => .inl (allc5 b hb)) ((priv_once be bc M cc _).st _ _ C6.sh fun b hb => ks7.block b ((priv_once be bc M cc _).lt _ _ C6.sh hb) fun z => by
    have := allc5 b z
    rw [C6.desk.lay.sb b hb] at this; cases this)
  have ar7 : Ar w7 pA rA s := ⟨ks7.row (fun z => by have := allc5 _ z; rw [C6.desk.lay.ar.1] at this; cases this) ar6.hp, ks7.row (fun z => by have := allc5 _ z; rw [C6.desk.lay.ar.2] at this; cases this) ar6.hr⟩
  have ksW7 : Ks (fun _ => False) W w7 := ksW6.then ks7 fun b hb z => by have := (all6.block b z).1; omega
  have A7 : SoW Post W pA rA be bc bf M n cc ws0 (k + 1) (fun j => if j = k then a else ag j) (fun j => if j = k then d else dl j) vn pl5 F5 col5 w7 (if 127 < d then g else g.set k 1) s :=
    ⟨C7, ar7, ks7.row A.apart row6, rowc5, by rw [ptrs_succ]; exact hrw, fun b hb => by
      rcases hvn b hb with z | z
      · exact allc5 b z
      · exact C6.desk.lay.above b z, fun z => by
      rcases hvn bf z with z | z
      · exact A.apart z
      · omega, old5, ksW7⟩
  refine Win.inBlock ?_
  refine desk_still A7.crew.desk (stok_at rfl rfl (by simp) (by kernel_rfl)) (fun wt Q hQ => so_q20 hx0 hx1 hx2 hx7 hx9 hx10 hx15 hx16 hx17 hx18 hx19 hk hM4 hQ) fun x8 w8 hx k8 D8 => ?_
  exact H a vn pl5 F5 col5 w8 x8 (A7.made D8 k8) hx
end
end Go.Proofs.Ytnbibpmhmffmpaa

namespace Go.Proofs.Ytnbibpmhmffmpaa
set_option linter.unusedVariables false
set_option linter.unusedSimpArgs false
set_option maxRecDepth 100000
open Go.RowKit
open Go.Conc
open Go.ConcN (upd_ne upd_same)

/-- What the first k have been told as they were made. -/
def gofS (d0 : Nat → Int) (M : Nat) : Nat → List Int
  | 0 => List.replicate M 0
  | k + 1 => if 127 < d0 k then gofS d0 M k else (gofS d0 M k).set k 1
section
variable {Post : Value → World → Prop} {W : World} {pA rA be bc bf M n : Nat} {cc : Int} {ws0 : List Int} {d0 : Nat → Int} {s : St}
theorem so_loop2 {args : Array Value} {bh oh ch bd od cd K co : Nat} {bo : Option Addr} (hds : ∀ i, i < M → W.cell? ⟨bd, od + i, none⟩ = some (.int .u8 (d0 i)) ∧ 0 ≤ d0 i ∧ d0 i ≤ 255) (hM4 : M ≤ 4) (hn1 : 1 ≤ n) (hn4 : n ≤ 4) (h0c : 0 ≤ cc) (hc1 : cc ≤ 1) (hbe : bc ≠ be)
    (H : ∀ ag va pl F col w (x : Nat → Value), SoW Post W pA rA be bc bf M n cc ws0 M ag d0 va pl F col w (gofS d0 M M) s → HasX x [(0, .slice (some ⟨bh, oh, none⟩) n ch), (1, .slice (some ⟨bd, od, none⟩) M cd), (2, .slice bo K co), (7, .pointer (some ⟨bc, 0, none⟩)), (9, .int .i64 n), (10, .pointer (some ⟨pA, 0, none⟩)), (15, .slice (some ⟨bf, 0, none⟩) n n), (16, .slice (some ⟨be, 0, none⟩) M M), (17, va), (18, .bool true), (19, .int .i64 M)] → Win Try.prog Post pl (1 + M) 0 (gor ((Frame.enter Try.prog 5 args .normal).at ⟨T318 x, []⟩ [.code (codeR (soR10 Try.f5))]) []) w) :
    ∀ e k, k + e = M → ∀ (x : Nat → Value) ag va pl F col w, SoW Post W pA rA be bc bf M n cc ws0 k ag d0 va pl F col w (gofS d0 M k) s → HasX x [(0, .slice (some ⟨bh, oh, none⟩) n ch), (1, .slice (some ⟨bd, od, none⟩) M cd), (2, .slice bo K co), (7, .pointer (some ⟨bc, 0, none⟩)), (9, .int .i64 n), (10, .pointer (some ⟨pA, 0, none⟩)), (15, .slice (some ⟨bf, 0, none⟩) n n), (16, .slice (some ⟨be, 0, none⟩) M M), (17, va), (18, .bool true), (19, .int .i64 k)] →
      Win Try.prog Post pl (1 + k) 0 (gor ((Frame.enter Try.prog 5 args .normal).at ⟨T318 x, []⟩ (.code (soX2 Try.f5) :: soK2 Try.f5)) []) w := by
  have hb : (Frame.enter Try.prog 5 args .normal).kind = .normal := rfl
  intro e
  induction e with
  | zero =>
    intro k hk x ag va pl F col w A hx
    obtain rfl : k = M := by omega
    have e19 : soX2 Try.f5 = .seq (soQ19 Try.f5) (codeR (soX2 Try.f5)) := by kernel_rfl
    obtain ⟨hx0, hx1, hx2, hx7, hx9, hx10, hx15, hx16, hx17, hx18, hx19, -⟩ := hx
    rw [show (Item.code (soX2 Try.f5) :: soK2 Try.f5) = .code (.seq (soQ19 Try.f5) (codeR (soX2 Try.f5))) :: soK2 Try.f5 by rw [← e19]]
    refine Win.seq ?_
    generalize hZ : codeR (soX2 Try.f5) = Z
    have hKe : exitTo 2 (.code Z :: soK2 Try.f5) = some [.code (codeR (soR10 Try.f5))] := rfl
    generalize hK : soK2 Try.f5 = KK at hKe
    generalize hE : codeR (soR10 Try.f5) = EE at hKe H
    simp only [soQ19, soX2, soR10, bodyOf, Try.f5, codeL, codeR, blockOf, loopOf, Option.getD_some, T318]
    simp only [hx0, hx1, hx2, hx7, hx9, hx10, hx15, hx16, hx17, hx18, hx19]
    refine Win.seq ?_
    refine Win.region ?_
    simp only [List.size_toArray, List.length_cons, List.length_nil, Nat.reduceAdd, List.range, List.range.loop]
    refine Win.pureOp (v := .int .i64 k) (.inl hb) rfl rfl (fun w => by rw [Sem.runT_eq]; simp [go_sem, execOp, Act.eval]; try (first | omega | rfl | exact ⟨rfl, rfl⟩ | kernel_rfl)) ?_
    simp only [Act.put, Act.eval, List.getElem?_toArray, List.getElem?_cons_zero, List.getElem?_cons_succ, Option.bind_some, List.getElem_toArray, List.getElem_cons_zero, List.getElem_cons_succ, List.setIfInBounds_toArray, List.set_cons_succ, List.set_cons_zero]
    refine Win.pureOp (v := .slice (some ⟨bd, od, none⟩) k cd) (.inl hb) rfl rfl (fun w => by rw [Sem.runT_eq]; simp [go_sem, execOp, Act.eval]; try (first | omega | rfl | exact ⟨rfl, rfl⟩ | kernel_rfl)) ?_
    simp only [Act.put, Act.eval, List.getElem?_toArray, List.getElem?_cons_zero, List.getElem?_cons_succ, Option.bind_some, List.getElem_toArray, List.getElem_cons_zero, List.getElem_cons_succ, List.setIfInBounds_toArray, List.set_cons_succ, List.set_cons_zero]
    refine Win.pureOp (v := .int .i64 (k : Int)) (.inl hb) rfl rfl (fun w => by rw [Sem.runT_eq]; simp [go_sem, execOp, Act.eval]; try (first | omega | rfl | exact ⟨rfl, rfl⟩ | kernel_rfl)) ?_
    simp only [Act.put, Act.eval, List.getElem?_toArray, List.getElem?_cons_zero, List.getElem?_cons_succ, Option.bind_some, List.getElem_toArray, List.getElem_cons_zero, List.getElem_cons_succ, List.setIfInBounds_toArray, List.set_cons_succ, List.set_cons_zero]
    refine Win.pureOp (v := .bool false) (.inl hb) rfl rfl (fun w => by rw [Sem.runT_eq]; simp [go_sem, execOp, Act.eval]; try (first | omega | rfl | exact ⟨rfl, rfl⟩ | kernel_rfl)) ?_
    simp only [Act.put, Act.eval, List.getElem?_toArray, List.getElem?_cons_zero, List.getElem?_cons_succ, Option.bind_some, List.getElem_toArray, List.getElem_cons_zero, List.getElem_cons_succ, List.setIfInBounds_toArray, List.set_cons_succ, List.set_cons_zero]
    refine Win.opsEnd ?_
    refine Win.cond (t := false) rfl ?_
    simp only [if_true, if_false, Bool.false_eq_true]
    refine Win.exit hKe ?_
    exact win_slots (K := [(0, .slice (some ⟨bh, oh, none⟩) n ch), (1, .slice (some ⟨bd, od, none⟩) k cd), (2, .slice bo K co), (7, .pointer (some ⟨bc, 0, none⟩)), (9, .int .i64 n), (10, .pointer (some ⟨pA, 0, none⟩)), (15, .slice (some ⟨bf, 0, none⟩) n n), (16, .slice (some ⟨be, 0, none⟩) k k), (17, va), (18, .bool true), (19, .int .i64 k)]) rfl ⟨rfl, rfl, rfl, rfl, rfl, rfl, rfl, rfl, rfl, rfl, rfl, trivial⟩ fun x' hx' => H ag va pl F col w x' A hx'
  | succ e ih =>
    intro k hk x ag va pl F col w A hx
    have hkM : k < M := by omega
    obtain ⟨h1, h2, h3⟩ := hds k hkM
    refine so_body2 A hx hkM hM4 hn1 hn4 h0c hc1 hbe ⟨h2, h3⟩ ((World.cell?_of_block (A.ks.block _ (World.block_lt_of_cell? _ _ h1) fun z => z)).trans h1) fun a va' pl' F' col' w' x' A' hx' => ?_
    have ed : (fun j => if j = k then d0 k else d0 j) = d0 := by
      funext j
      by_cases e : j = k
      · subst e; simp
      · simp [e]
    rw [ed] at A'
    exact Win.inLoop (ih (k + 1) (by omega) x' _ va' pl' F' col' w' A' hx')
end
end Go.Proofs.Ytnbibpmhmffmpaa
