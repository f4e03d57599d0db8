/- The walks of package alloc: a maker's single acts (write, writeListed, clear, entry, place, hold, listed). The walks of package alloc: who waits, what is claimed, what is found in a block. The walks of package alloc: looking for more, carving. Conditions: as each theorem states them. -/
import Derived.Deep.RegionWith
import Derived.LoopTactic
import Derived.Deep.LoopGhost
import Derived.IntWalk
import Derived.Deep.RegionHeld3
import Derived.Test.YtdbbkncjhnafdaaGreatDoorPt05
namespace Go.Proofs.YtdbbkncjhnafdaaGreatDoor
set_option linter.unusedVariables false
set_option linter.unusedSimpArgs false
set_option maxRecDepth 100000
open Go.RowKit

/-- A maker, and its box. -/
abbrev mkV (T G n p q o : Nat) (wk : Bool) (hd : Value) : Value := .agg #[.iface 30 (.pointer (some ⟨p, 0, none⟩)), .int .i64 T, .int .i64 G, .int .i64 n, .int .u8 o, .pointer (some ⟨q, 0, none⟩), .bool wk, hd]
def mkC (T G n p q o : Nat) (wk : Bool) (hd : Value) : Array Value := #[.iface 30 (.pointer (some ⟨p, 0, none⟩)), .int .i64 T, .int .i64 G, .int .i64 n, .int .u8 o, .pointer (some ⟨q, 0, none⟩), .bool wk, hd]
/-- A world that has just a maker's box more. -/
def mkW (w : World) (T G n p q o : Nat) (wk : Bool) (hd : Value) : World := w.alloc (.cells (mkC T G n p q o wk hd) 135)
theorem mkW_kp (w : World) (T G n p q o : Nat) (wk : Bool) (hd : Value) : Kp [] w (mkW w T G n p q o wk hd) := (Kp.refl _ _).alloc _
theorem mkW_row (w : World) (T G n p q o : Nat) (wk : Bool) (hd : Value) : (mkW w T G n p q o wk hd).heap[w.heap.size]? = some (.cells (mkC T G n p q o wk hd) 135 (0, 0)) := heap_alloc_new _ _

section
variable {T G n p r q t o : Nat} {wk : Bool} {hd : Value} {vs : Nat → Value} {H : List Int} {R : Nat → List Int} {w : World}
theorem a_write (h : Mw T G n p r q vs H R t w) (ht : t ≤ 800000) (k : Nat) (hk : k < H.length) (j : Int) (hj : j = k) (kd c ow rf sz : Int) (g m : Bool) (h0 : 0 ≤ kd) (h1 : 0 ≤ c) (h2 : 0 ≤ ow) (h3 : 0 ≤ rf) (h4 : 0 ≤ sz) (hm : Wd.mayB kd c ow rf sz g m = true) (x : Int) (hx : Wd.wordI kd c ow rf sz g m = x) :
    Calls Tryz.prog 142 #[mkV T G n p q o wk hd, .int .i64 j, .agg #[.int .u8 kd, .int .u8 c, .bool g, .bool m, .int .u8 ow, .int .u8 rf, .int .u8 sz]] w fun e w' => e = .returned (.tuple #[]) ∧ Mw T G n p r q vs (H.set k x) R (t + 1) w' ∧ Kp [p, r] w w' := by
  have hp := Lib.hid (fun w => (Wd.put_yes kd c ow rf sz g m w h0 h1 h2 h3 h4 hm).mono fun e w' ⟨q1, q2⟩ => And.intro q1 (kp_of_below q2))
  have hb := Wd.word_lt kd c ow rf sz g m h0 h1 h2 h3 h4 hm
  rw [hx] at hp hb
  obtain ⟨t0, ht0, hh⟩ := h.hw
  have HWR := Lib.hid (fun (w' : World) (hw : Kp [] w w') => wr_word (hh.on hw) (by omega) k hk j x hj hb.1 (by omega))
  have HT : Hid (∀ w', Hw T G n p r (H.set k x) (t0 + 1) w' → Kp [p, r] w w' → Mw T G n p r q vs (H.set k x) R (t + 1) w') := Lib.hid fun w' a k' => h.turn k' ⟨t0 + 1, by omega, a⟩ (by simp)
  clear hm hx hb h0 h1 h2 h3 h4 h hh hj hk ht0 ht
  have hna := na_write
  have KB : Hid (∀ w1, Kp [] ((mkW w T G n p q o wk hd).alloc (.cells #[.int .u8 kd, .int .u8 c, .bool g, .bool m, .int .u8 ow, .int .u8 rf, .int .u8 sz] 68)) w1 → Kp [] w w1 ∧ w1.heap[w.heap.size]? = some (.cells (mkC T G n p q o wk hd) 135 (0, 0))) :=
    Lib.hid fun w1 k1 => ⟨((mkW_kp w T G n p q o wk hd).alloc _).trans k1, (((Kp.refl [] _).alloc _).trans k1).row (by simp) (mkW_row w T G n p q o wk hd)⟩
  unfold mkW mkC at KB
  go_enter Tryz.func142, Tryz.ntmps142
  go_wp2_with fail
  refine (hp.out _).mono ?_
  rintro e w1 ⟨rfl, hk1⟩
  obtain ⟨k1, r1⟩ := KB.out w1 hk1
  have c0 : w1.cell? ⟨w.heap.size, 0, none⟩ = some (.iface 30 (.pointer (some ⟨p, 0, none⟩))) := cell_of_row r1 0
  have K1 := Lib.hid k1
  clear hk1 k1 r1
  go_wp2_with fail
  refine (HWR.out _ K1.out).mono ?_
  rintro e w2 ⟨rfl, hg, hk2⟩
  have F := Lib.hid (And.intro (HT.out _ hg ((K1.out.mono (by simp)).trans hk2)) ((K1.out.mono (by simp)).trans hk2))
  clear hg hk2
  go_wp2_with fail
  go_end0
  exact ⟨rfl, F.out.1, F.out.2⟩

theorem lw_may (o : Nat) (ho : o < 64) : Wd.mayB 1 0 o 0 0 false false = true := by
  rw [Wd.mayB_iff]; simp; omega
/-- A cell becomes one that the owner has on its list. -/
theorem a_writeListed (h : Mw T G n p r q vs H R t w) (ht : t ≤ 800000) (ho : o < 64) (k : Nat) (hk : k < H.length) (j : Int) (hj : j = k) :
    Calls Tryz.prog 174 #[mkV T G n p q o wk hd, .int .i64 j] w fun e w' => e = .returned (.tuple #[]) ∧ Mw T G n p r q vs (H.set k (lw o)) R (t + 1) w' ∧ Kp [p, r] w w' := by
  have HW := Lib.hid (a_write (o := o) (wk := wk) (hd := hd) (h.on (mkW_kp w T G n p q o wk hd)) ht k hk j hj 1 0 o 0 0 false false (by decide) (by decide) (by omega) (by decide) (by decide) (lw_may o ho) (lw o) rfl)
  have KB := Lib.hid (mkW_kp w T G n p q o wk hd)
  unfold mkW mkC at HW KB
  generalize lw o = x at HW ⊢
  clear h hj hk ht
  go_enter Tryz.func174, Tryz.ntmps174
  go_wp2_with fail
  refine HW.out.mono ?_
  rintro e w2 ⟨rfl, hg, hk2⟩
  have F := Lib.hid (And.intro hg ((KB.out.mono (by simp)).trans hk2))
  clear hg hk2
  go_wp2_with fail
  go_end0
  exact ⟨rfl, F.out.1, F.out.2⟩

/-- What an entry of the owner's blocks of a class is. -/
theorem a_entry (c : Nat) (hc : c < 4) (w : World) :
    Calls Tryz.prog 172 #[mkV T G n p q o wk hd, .int .i64 c] w fun e w' => e = .returned (.agg #[.int .u8 1, .int .u8 c, .int .u8 0, .int .u8 o]) ∧ Kp [] w w' := by
  have hcc : ((c : Int) % 256) = c := by omega
  have HR := Lib.hid (heap_alloc_new (mkW w T G n p q o wk hd) (.cells (cs4 1 c 0 o) 116))
  have KB := Lib.hid ((mkW_kp w T G n p q o wk hd).alloc (.cells (cs4 1 c 0 o) 116))
  unfold mkW mkC cs4 at HR KB
  rw [World.size_alloc] at HR
  go_enter Tryz.func172, Tryz.ntmps172
  go_wp2_with fail
  refine bodyPost_row rfl (w.heap.size + 1) 116 (cs4 1 c 0 o) (0, 0) _ rfl rfl HR.out Tryz.underlying116 rfl (by kernel_rfl) ⟨rfl, KB.out⟩

/-- Where a cell of a block begins. -/
theorem pl_is (c b i : Nat) (hc : c < 4) : ((3 + T + G + n + 32 * b : Nat) : Int) + (i : Int) * Cl.wdC c = (pl T G n c b i : Nat) := by
  unfold pl
  rcases Li.four hc with rfl | rfl | rfl | rfl
  · rw [show Cl.wdC ((0 : Nat) : Int) = 2 from by decide]; simp; omega
  · rw [show Cl.wdC ((1 : Nat) : Int) = 3 from by decide]; simp; omega
  · rw [show Cl.wdC ((2 : Nat) : Int) = 5 from by decide]; simp; omega
  · rw [show Cl.wdC ((3 : Nat) : Int) = 9 from by decide]; simp; omega
theorem wd_mul (c i : Nat) (hc : c < 4) (hi : i < (Cl.clC c).toNat) : 0 ≤ (i : Int) * Cl.wdC c ∧ (i : Int) * Cl.wdC c ≤ 32 := by
  rcases Li.four hc with rfl | rfl | rfl | rfl
  · rw [show Cl.clC ((0 : Nat) : Int) = 16 from by decide] at hi; rw [show Cl.wdC ((0 : Nat) : Int) = 2 from by decide]; simp at hi; omega
  · rw [show Cl.clC ((1 : Nat) : Int) = 10 from by decide] at hi; rw [show Cl.wdC ((1 : Nat) : Int) = 3 from by decide]; simp at hi; omega
  · rw [show Cl.clC ((2 : Nat) : Int) = 6 from by decide] at hi; rw [show Cl.wdC ((2 : Nat) : Int) = 5 from by decide]; simp at hi; omega
  · rw [show Cl.clC ((3 : Nat) : Int) = 3 from by decide] at hi; rw [show Cl.wdC ((3 : Nat) : Int) = 9 from by decide]; simp at hi; omega
theorem a_place (hT : T ≤ 64) (hG : G ≤ 8) (hn : n ≤ 64) (tb : Cl.Tab w) (c b i : Nat) (hc : c < 4) (hb : b < n) (hi : i < (Cl.clC c).toNat) :
    Calls Tryz.prog 175 #[mkV T G n p q o wk hd, .int .i64 b, .int .i64 c, .int .i64 i] w fun e w' => e = .returned (.int .i64 (pl T G n c b i)) ∧ Kp [] w w' := by
  have hs := Lib.hid (fun w => Ly.start_is T G n b ((3 + T + G + n + 32 * b : Nat) : Int) w (by rw [Ly.rowP_in (by omega) (by omega)]; omega) (by omega) (by omega) (by omega) (by omega) (by omega) (by omega))
  have KB := Lib.hid (mkW_kp w T G n p q o wk hd)
  have TB := Lib.hid (fun w1 (k : Kp [] w w1) => tab_keep tb k (by simp))
  have hE := pl_is (T := T) (G := G) (n := n) c b i hc
  have hm := wd_mul c i hc hi
  have hS : 3 + T + G + n + 32 * b ≤ 4000 := by omega
  have HWD := Lib.hid (fun w (tb : Cl.Tab w) => Cl.words_is w tb c _ rfl)
  generalize 3 + T + G + n + 32 * b = S at hs hE hS
  generalize pl T G n c b i = P at hE ⊢
  have e1 := IntWalk.i64_in ((i : Int) * Cl.wdC c) (by omega)
  have e2 := IntWalk.i64_in ((S : Int) + (i : Int) * Cl.wdC c) (by omega)
  unfold mkW mkC at KB
  clear tb hc hb hi hT hG hn hm hS
  generalize Cl.wdC c = d at HWD e1 e2 hE
  have HE := Lib.hid hE
  clear hE
  go_enter Tryz.func175, Tryz.ntmps175
  go_wp2_with fail
  refine (hs.out _).mono ?_
  rintro e w1 ⟨rfl, hk1⟩
  have K1 := Lib.hid (KB.out.trans hk1)
  clear hk1
  go_wp2_with fail
  refine (HWD.out _ (TB.out _ K1.out)).mono ?_
  rintro e w2 ⟨rfl, rfl⟩
  go_wp2_with fail
  go_ret
  exact ⟨by rw [← HE.out]; rfl, K1.out⟩

theorem a_listed (h : Mw T G n p r q vs H R t w) (c : Nat) (hc : c < 4) :
    Calls Tryz.prog 160 #[mkV T G n p q o wk hd, .int .i64 c] w fun e w' => e = .returned (.tuple #[.int .i64 (((popS (H, R) c).2).getD 0), .bool (popS (H, R) c).2.isSome]) ∧ ∃ vs', Mw T G n p r q vs' (popS (H, R) c).1.1 (popS (H, R) c).1.2 t w' ∧ Mk p r q vs vs' w w' := by
  have h1 := h.on (mkW_kp w T G n p q o wk hd)
  have HP : Hid (Calls Tryz.prog 171 #[.pointer (some ⟨q, 0, none⟩), .int .i64 c] (mkW w T G n p q o wk hd) fun e w' => e = .returned (.tuple #[.int .i64 (Li.popX R c), .int .i64 (Li.popE R c)]) ∧ ∃ vs', Mw T G n p r q vs' H (Li.popR R c) t w' ∧ Mk p r q vs vs' w w') := by
    refine Lib.hid ((Li.pop_is _ q vs R c h1.ls (h.lk.len h.sm)).mono ?_)
    rintro e w' ⟨rfl, vs', L, K⟩
    exact ⟨rfl, vs', h1.list L K (h.lk.pop c), (Mk.of_kp (mkW_kp w T G n p q o wk hd) (by simp)).trans (Mk.of_lk K)⟩
  have hX : ((popS (H, R) c).2).getD 0 = Li.popX R c := by
    unfold popS Li.popX
    by_cases e : Li.popE R c = 0
    · rw [if_pos e]; rfl
    · rw [if_neg e, if_neg e]; rfl
  have hB : (popS (H, R) c).2.isSome = (Li.popE R c == 0) := by
    unfold popS
    by_cases e : Li.popE R c = 0
    · rw [if_pos e, e]; rfl
    · rw [if_neg e]; simp [e]
  rw [hX, hB]
  show Calls _ _ _ _ fun e w' => _ ∧ ∃ vs', Mw T G n p r q vs' H (Li.popR R c) t w' ∧ Mk p r q vs vs' w w'
  unfold mkW mkC at HP
  clear h h1 hX hB
  generalize Li.popX R c = xx at HP ⊢
  generalize Li.popE R c = ee at HP ⊢
  generalize Li.popR R c = RR at HP ⊢
  go_enter Tryz.func160, Tryz.ntmps160
  go_wp2_with fail
  refine HP.out.mono ?_
  rintro e w1 ⟨rfl, h2⟩
  have H2 := Lib.hid h2
  clear h2
  go_wp2_with fail
  go_ret2
  exact ⟨rfl, H2.out⟩

set_option maxHeartbeats 4000000 in
theorem a_clear (h : Mw T G n p r q vs H R t w) (ht : t ≤ 700000) (a : Nat) (s : Nat) (hs : s ≤ 95) (ha : a + s < H.length) (kd c g' m' ow rf : Value) :
    Calls Tryz.prog 141 #[mkV T G n p q o wk hd, .int .i64 a, .agg #[kd, c, g', m', ow, rf, .int .u8 s]] w fun e w' => e = .returned (.tuple #[]) ∧ Mw T G n p r q vs (clearH H a s) R (t + s) w' ∧ Kp [p, r] w w' := by
  have hlt := h.lt
  have hsm := h.sm
  have HB : Hid (∀ w', Kp [] ((mkW w T G n p q o wk hd).alloc (.cells #[kd, c, g', m', ow, rf, .int .u8 s] 68)) w' → Mw T G n p r q vs (clearH H a 0) R (t + 0) w' ∧ Kp [p, r] w w' ∧ w'.heap[w.heap.size]? = some (.cells (mkC T G n p q o wk hd) 135 (0, 0))) :=
    Lib.hid fun w' k => ⟨h.on (((mkW_kp w T G n p q o wk hd).alloc _).trans k), (((mkW_kp w T G n p q o wk hd).alloc _).trans k).mono (by simp), (((Kp.refl [] _).alloc _).trans k).row (by simp) (mkW_row w T G n p q o wk hd)⟩
  have HWR : Hid (∀ (i : Nat) (w' : World), i < s → Mw T G n p r q vs (clearH H a i) R (t + i) w' → Calls Tryz.prog 69 #[.pointer (some ⟨p, 0, none⟩), .int .i64 ((a + 1 + i : Nat) : Int), .int .u64 0] w' fun e w2 => e = .returned (.tuple #[]) ∧ Mw T G n p r q vs (clearH H a (i + 1)) R (t + (i + 1)) w2 ∧ Kp [p, r] w' w2) := by
    refine Lib.hid fun i w' hi hg => ?_
    obtain ⟨t0, ht0, hh⟩ := hg.hw
    refine (wr_word hh (by omega) (a + 1 + i) (by rw [clearH_len]; omega) _ 0 rfl (by decide) (by decide)).mono ?_
    rintro e w2 ⟨rfl, h2, h3⟩
    exact ⟨rfl, hg.turn h3 ⟨t0 + 1, by omega, h2⟩ (by simp [clearH]), h3⟩
  have HN : Hid (a + s < 1000) := Lib.hid (by omega)
  unfold mkW at HB
  have hna := na_write
  clear h ha hsm ht
  go_enter Tryz.func141, Tryz.ntmps141
  go_wp2_with fail
  go_loopg [10] s (fun gg v10 wr => ∃ i : Nat, i + gg = s ∧ v10 = .int .i64 i ∧ Hid (Mw T G n p r q vs (clearH H a i) R (t + i) wr ∧ Kp [p, r] w wr ∧ wr.heap[w.heap.size]? = some (.cells (mkC T G n p q o wk hd) 135 (0, 0))))
  case atStart => exact ⟨0, by omega, rfl, Lib.hid (HB.out _ (Kp.refl _ _))⟩
  case round =>
    obtain ⟨i, hi, rfl, HR⟩ := hrel
    by_cases hlt2 : i < s
    · have c0 : wr.cell? ⟨w.heap.size, 0, none⟩ = some (.iface 30 (.pointer (some ⟨p, 0, none⟩))) := cell_of_row HR.out.2.2 0
      have hn1 := HN.out
      have e1 := IntWalk.i64_in ((a : Int) + 1) (by omega)
      obtain ⟨k, hk⟩ : ∃ k, k = a + 1 + i := ⟨_, rfl⟩
      have e3 : (a : Int) + 1 + i = (k : Int) := by omega
      have e5 := IntWalk.i64_in (k : Int) (by omega)
      have HWi := Lib.hid (HWR.out i wr hlt2 HR.out.1)
      rw [← hk] at HWi
      clear hk hn1
      go_wp2_with fail
      refine HWi.out.mono ?_
      rintro e w2 ⟨rfl, h2, hk2⟩
      have H2 := Lib.hid (And.intro h2 (And.intro (HR.out.2.1.trans hk2) (hk2.row (by simp; omega) HR.out.2.2)))
      clear h2 hk2
      go_wp2_with fail
      go_roundg (s - (i + 1))
      case rel => exact ⟨i + 1, by omega, by go_num, H2⟩
      case measure => omega
    · obtain rfl : i = s := by omega
      go_wp2_with fail
      go_end0
      exact ⟨rfl, HR.out.1, HR.out.2.1⟩
end

end Go.Proofs.YtdbbkncjhnafdaaGreatDoor

namespace Go.Proofs.YtdbbkncjhnafdaaGreatDoor
set_option linter.unusedVariables false
set_option linter.unusedSimpArgs false
set_option maxRecDepth 100000
open Go.RowKit

section
variable {T G n p r q t o : Nat} {wk : Bool} {hd : Value} {vs : Nat → Value} {H : List Int} {R : Nat → List Int} {w : World}
theorem a_owner (b : Nat) (o' : Int) (w : World) (hb : w.heap[b]? = some (.cells (mkC T G n p q o wk hd) 135 (0, 0))) :
    Calls Tryz.prog 178 #[.int .u8 o', .pointer (some ⟨b, 0, none⟩)] w fun e w' => e = .returned (.bool (o' == (o : Int))) ∧ Kp [] w w' := by
  have c0 : w.cell? ⟨b, 4, none⟩ = some (.int .u8 o) := cell_of_row hb 4
  clear hb
  go_enter Tryz.func178, Tryz.ntmps178
  go_wp2_with fail
  go_ret
  exact ⟨rfl, Kp.refl _ _⟩

theorem a_tidy (h : Mw T G n p r q vs H R t w) (ht : t ≤ 600000) :
    Calls Tryz.prog 164 #[mkV T G n p q o wk hd] w fun e w' => e = .returned (.tuple #[]) ∧ Mw T G n p r q vs (tidyH T G n o wk H) R (t + 5 * n) w' ∧ Kp [p, r] w w' := by
  have hlt := h.lt
  have KB := Lib.hid (mkW_kp w T G n p q o wk hd)
  cases wk
  · have HW : Hid (Calls Tryz.prog 177 #[.iface 30 (.pointer (some ⟨p, 0, none⟩)), .agg #[.int .i64 T, .int .i64 G, .int .i64 n], .func (.func 178) #[] #[.pointer (some ⟨w.heap.size, 0, none⟩)]] (mkW w T G n p q o false hd) fun e w' => e = .returned (.tuple #[]) ∧ Mw T G n p r q vs (waitH T G n o H n) R (t + 5 * n) w' ∧ Kp [p, r] w w') := by
      obtain ⟨t0, ht0, hh⟩ := h.hw
      refine Lib.hid ((g_waiting (hh.on (mkW_kp w T G n p q o false hd)) (by omega) o 178 #[.pointer (some ⟨w.heap.size, 0, none⟩)] (fun _ _ => rfl) (fun o' w' k => a_owner w.heap.size o' w' (k.row (by simp; omega) (mkW_row w T G n p q o false hd)))).mono ?_)
      rintro e w' ⟨t', h1, h2, rfl, h3, h4⟩
      have k : Kp [p, r] w w' := ((mkW_kp w T G n p q o false hd).mono (by simp)).trans h4
      exact ⟨rfl, h.turn k ⟨t', by omega, h3⟩ (waitH_len _ _), k⟩
    unfold mkW mkC at HW KB
    show Calls _ _ _ _ fun e w' => _ ∧ Mw T G n p r q vs (waitH T G n o H n) R (t + 5 * n) w' ∧ _
    generalize waitH T G n o H n = H2 at HW ⊢
    clear h ht hlt
    have hmf : ∀ (fn : Fn) (first cap : Array Value) (w : World), (Instr.makeFunc fn first cap).run Tryz.prog w = .ok (.func fn first cap) w := fun _ _ _ _ => rfl
    go_enter Tryz.func164, Tryz.ntmps164
    go_wp2_with fail
    refine HW.out.mono ?_
    rintro e w1 ⟨rfl, h1, h2⟩
    have F := Lib.hid (And.intro h1 h2)
    clear h1 h2
    go_wp2_with fail
    go_end0
    exact ⟨rfl, F.out.1, F.out.2⟩
  · have F := Lib.hid (And.intro ((h.on KB.out).more (show t ≤ t + 5 * n by omega)) KB.out)
    unfold mkW mkC at F KB
    show Calls _ _ _ _ fun e w' => _ ∧ Mw T G n p r q vs H R (t + 5 * n) w' ∧ _
    clear h ht hlt
    go_enter Tryz.func164, Tryz.ntmps164
    go_wp2_with fail
    exact bodyPost_ret (results_none Tryz.results164 _ _ _) rfl ⟨rfl, F.out.1, F.out.2.mono (by simp)⟩

theorem claim_is (H : List Int) (hM : H.getD 0 0 = ((H.getD 0 0).toNat : Nat)) (n run : Nat) (hr : 1 ≤ run ∧ run ≤ 3) : ∃ (a : Nat) (q : Bool) (M' : Nat), Claims (H.getD 0 0).toNat run a q M' ∧ H.set 0 (M' : Int) = (claimH n H run).1 ∧ a ≤ 64 ∧
    ((q = false ∧ (claimH n H run).2 = none) ∨ (q = true ∧ a + run ≤ n ∧ (claimH n H run).2 = some a) ∨ (q = true ∧ ¬ a + run ≤ n ∧ (claimH n H run).2 = none)) := by
  unfold claimH
  obtain ⟨M, hM'⟩ : ∃ M, M = (H.getD 0 0).toNat := ⟨_, rfl⟩
  rw [← hM'] at hM ⊢
  obtain ⟨a, q, M', hc, ha, hq, hm⟩ := frst_claims M run
  cases hf : frst M run with
  | none =>
    rw [hf] at ha hq hm
    have ha' : a = 0 := ha
    have hq' : q = false := hq
    have hm' : M' = M := hm
    rw [ha', hq', hm'] at hc
    refine ⟨0, false, M, by simpa using hc, ?_, by omega, .inl ⟨rfl, rfl⟩⟩
    show H.set 0 (M : Int) = H
    rw [← hM, set_same']
  | some k =>
    rw [hf] at ha hq hm
    have ha' : a = (k : Int) := ha
    have hq' : q = true := hq
    have hm' : M' = Bm.setN M k run false := hm
    rw [ha', hq', hm'] at hc
    refine ⟨k, true, Bm.setN M k run false, hc, rfl, ?_, ?_⟩
    · rcases hc with ⟨k', hk, _, he, _⟩ | ⟨_, _, he, _⟩
      · omega
      · simp at he
    · by_cases hk : k + run ≤ n
      · exact .inr (.inl ⟨rfl, hk, if_pos hk⟩)
      · exact .inr (.inr ⟨rfl, hk, if_neg hk⟩)

theorem a_claim (h : Mw T G n p r q vs H R t w) (ht : t ≤ 600000) (run : Nat) (hr : 1 ≤ run ∧ run ≤ 3) :
    Calls Tryz.prog 163 #[mkV T G n p q o wk hd, .int .i64 run] w fun e w' => e = .returned (.tuple #[.int .i64 (((claimH n H run).2.getD 0 : Nat)), .bool (claimH n H run).2.isSome]) ∧ Mw T G n p r q vs (claimH n H run).1 R (t + 1) w' ∧ Kp [p, r] w w' := by
  have hlt := h.lt
  have hM : H.getD 0 0 = ((H.getD 0 0).toNat : Nat) := by have := (h.word 0).1; omega
  obtain ⟨a, u, M', hc, hH, ha, hways⟩ := claim_is H hM n run hr
  have hfit := h.fit
  have HC : Hid (Calls Tryz.prog 176 #[.iface 30 (.pointer (some ⟨p, 0, none⟩)), .agg #[.int .i64 T, .int .i64 G, .int .i64 n], .int .i64 run] (mkW w T G n p q o wk hd) fun e w' => e = .returned (.tuple #[.int .i64 a, .bool u]) ∧ Mw T G n p r q vs (claimH n H run).1 R (t + 1) w' ∧ Kp [p, r] w w' ∧ w'.heap[w.heap.size]? = some (.cells (mkC T G n p q o wk hd) 135 (0, 0))) := by
    obtain ⟨t0, ht0, hh⟩ := h.hw
    refine Lib.hid ((g_claim_in (hh.on (mkW_kp w T G n p q o wk hd)) (by omega) hM hc (by omega) (by omega)).mono ?_)
    rintro e w' ⟨rfl, h3, h4⟩
    have k : Kp [p, r] w w' := ((mkW_kp w T G n p q o wk hd).mono (by simp)).trans h4
    rw [hH] at h3
    exact ⟨rfl, h.turn k ⟨t0 + 1, by omega, h3⟩ (claimH_len _), k, h4.row (by simp; omega) (mkW_row w T G n p q o wk hd)⟩
  have hB := Lib.hid (fun w => Ly.blocks_is T G n w)
  unfold mkW at HC
  clear h ht hlt hM hc hH
  generalize (claimH n H run).1 = H2 at HC ⊢
  generalize (claimH n H run).2 = res at hways ⊢
  rcases hways with ⟨rfl, rfl⟩ | ⟨rfl, hk, rfl⟩ | ⟨rfl, hk, rfl⟩
  · unfold mkC at HC
    go_enter Tryz.func163, Tryz.ntmps163
    go_wp2_with fail
    refine HC.out.mono ?_
    rintro e w1 ⟨rfl, h1, h2, h3⟩
    have F := Lib.hid (And.intro h1 h2)
    clear h1 h2 h3
    go_wp2_with fail
    go_ret2
    exact ⟨rfl, F.out.1, F.out.2⟩
  all_goals
    have e1 := IntWalk.i64_in ((a : Int) + run) (by omega)
    unfold mkC at HC
    go_enter Tryz.func163, Tryz.ntmps163
    go_wp2_with fail
    refine HC.out.mono ?_
    rintro e w1 ⟨rfl, h1, h2, h3⟩
    have F := Lib.hid (And.intro h1 h2)
    have c1 : w1.cell? ⟨w.heap.size, 1, none⟩ = some (.int .i64 T) := cell_of_row h3 1
    have c2 : w1.cell? ⟨w.heap.size, 2, none⟩ = some (.int .i64 G) := cell_of_row h3 2
    have c3 : w1.cell? ⟨w.heap.size, 3, none⟩ = some (.int .i64 n) := cell_of_row h3 3
    clear h1 h2 h3
    go_wp2_with fail
    refine (hB.out _).mono ?_
    rintro e w2 ⟨rfl, hk2⟩
    have F2 := Lib.hid (And.intro (F.out.1.on hk2) (F.out.2.trans (hk2.mono (by simp))))
    clear hk2 c1 c2 c3
    go_wp2_with fail
    go_ret2
    exact ⟨rfl, F2.out.1, F2.out.2⟩

/-- What Take says of a word, as far as looking for more asks. -/
theorem take_free (x : Int) (h0 : 0 ≤ x) (h1 : x < 18446744073709551616) : ∃ (k c o r s er : Int) (g m : Bool),
    Hid (∀ w, Calls Tryz.prog 24 #[.int .u64 x] w fun e w' => e = .returned (.tuple #[.agg #[.int .u8 k, .int .u8 c, .bool g, .bool m, .int .u8 o, .int .u8 r, .int .u8 s], .int .i64 er]) ∧ Kp [] w w') ∧
    ((er = 3 ∧ frB x = false) ∨ (er = 0 ∧ (k == 0) = false ∧ frB x = false) ∨ (er = 0 ∧ k = 0 ∧ frB x = true)) := by
  cases ht : Wd.takeB x
  · exact ⟨0, 0, 0, 0, 0, 3, false, false, Lib.hid fun w => (Wd.take_none x w h0 h1 ht).mono fun e w' ⟨a, b⟩ => ⟨a, kp_of_below b⟩, .inl ⟨rfl, by simp [frB, ht]⟩⟩
  · refine ⟨_, _, _, _, _, 0, _, _, Lib.hid fun w => (Wd.take_some x w h0 ht).mono fun e w' ⟨a, b⟩ => ⟨a, kp_of_below b⟩, ?_⟩
    by_cases hk : x % 4 = 0
    · exact .inr (.inr ⟨rfl, hk, by simp [frB, ht, hk]⟩)
    · exact .inr (.inl ⟨rfl, by simp [hk], by simp [frB, ht, hk]⟩)

set_option maxHeartbeats 8000000 in
theorem a_look (h : Mw T G n p r q vs H R t w) (ht : t ≤ 600000) (ho : o < 64) (b c : Nat) (hb : b < n) (hc : c < 4) :
    Calls Tryz.prog 173 #[mkV T G n p q o wk hd, .int .i64 b, .int .i64 c] w fun e w' => e = .returned (.tuple #[]) ∧ ∃ vs', Mw T G n p r q vs' (lookS T G n o c b (H, R) (Cl.clC c).toNat).1 (lookS T G n o c b (H, R) (Cl.clC c).toNat).2 (t + 32) w' ∧ Mk p r q vs vs' w w' := by
  have hm : (Cl.clC c).toNat ≤ 16 := by rcases Li.four hc with rfl | rfl | rfl | rfl <;> decide
  have hcl : Cl.clC c = ((Cl.clC c).toNat : Nat) := by rcases Li.four hc with rfl | rfl | rfl | rfl <;> decide
  have hf := h.fit
  have hsm := h.sm
  have HCl := Lib.hid (fun w (tb : Cl.Tab w) => Cl.cells_is w tb c _ rfl)
  have HPf : Hid (∀ i, i < (Cl.clC c).toNat → 1 ≤ pl T G n c b i ∧ (pl T G n c b i : Int) + Cl.wdC c ≤ H.length ∧ pl T G n c b i < H.length) := Lib.hid fun i hi => by
    have := pl_fit (T := T) (G := G) hc hb hi hf.1
    exact this
  have HPl : Hid (∀ (i : Nat) (w' : World), i < (Cl.clC c).toNat → Cl.Tab w' → Calls Tryz.prog 175 #[mkV T G n p q o wk hd, .int .i64 b, .int .i64 c, .int .i64 i] w' fun e w2 => e = .returned (.int .i64 (pl T G n c b i)) ∧ Kp [] w' w2) := Lib.hid fun i w' hi tb => a_place hf.2.1 hf.2.2.1 hf.2.2.2 tb c b i hc hb hi
  rw [hcl] at HCl
  generalize (Cl.clC c).toNat = m at hm HCl HPl HPf ⊢
  have HS : Hid (∀ i s, lookS T G n o c b s (i + 1) = if frB ((lookS T G n o c b s i).1.getD (pl T G n c b i) 0) then ((lookS T G n o c b s i).1.set (pl T G n c b i) (lw o), Li.pushR (lookS T G n o c b s i).2 c (pl T G n c b i)) else lookS T G n o c b s i) := Lib.hid fun i s => rfl
  have HB : Hid (∃ vs', Mw T G n p r q vs' (lookS T G n o c b (H, R) 0).1 (lookS T G n o c b (H, R) 0).2 (t + 2 * 0) (mkW w T G n p q o wk hd) ∧ Mk p r q vs vs' w (mkW w T G n p q o wk hd) ∧ (mkW w T G n p q o wk hd).heap[w.heap.size]? = some (.cells (mkC T G n p q o wk hd) 135 (0, 0))) :=
    Lib.hid ⟨vs, h.on (mkW_kp w T G n p q o wk hd), Mk.of_kp (mkW_kp w T G n p q o wk hd) (by simp), mkW_row w T G n p q o wk hd⟩
  have HL : Hid (∀ i, (lookS T G n o c b (H, R) i).1.length = H.length) := Lib.hid fun i => lookS_len i
  have HT : Hid (Cl.Tab (mkW w T G n p q o wk hd)) := Lib.hid (h.on (mkW_kp w T G n p q o wk hd)).tab
  have HTt := Lib.hid ht
  have hna := na_read
  unfold mkW at HB HT
  unfold mkC at HB HT
  clear h hf hsm hcl ht
  go_enter Tryz.func173, Tryz.ntmps173
  go_wp2_with fail
  refine (HCl.out _ HT.out).mono ?_
  rintro e w1 ⟨rfl, rfl⟩
  go_wp2_with fail
  go_loopg [12] m (fun gg v12 wr => ∃ i : Nat, i + gg = m ∧ v12 = .int .i64 i ∧ Hid (∃ vs', Mw T G n p r q vs' (lookS T G n o c b (H, R) i).1 (lookS T G n o c b (H, R) i).2 (t + 2 * i) wr ∧ Mk p r q vs vs' w wr ∧ wr.heap[w.heap.size]? = some (.cells (mkC T G n p q o wk hd) 135 (0, 0))))
  case atStart => exact ⟨0, by omega, rfl, HB⟩
  case round =>
    obtain ⟨i, hi, rfl, HR⟩ := hrel
    by_cases hlt2 : i < m
    · obtain ⟨vs1, hM, hK, hrow⟩ := HR.out
      have HPl := Lib.hid (fun w' => HPl.out i w' hlt2)
      have hpf := HPf.out i hlt2
      rw [← HL.out i] at hpf
      have hS1 := HS.out i (H, R)
      have HL1 := HL.out i
      generalize lookS T G n o c b (H, R) i = s at hM hpf hS1 HL1
      generalize pl T G n c b i = P at HPl hpf hS1
      obtain ⟨x, hx⟩ : ∃ x, s.1.getD P 0 = x := ⟨_, rfl⟩
      rw [hx] at hS1
      have hx0 := hM.word P
      rw [hx] at hx0
      obtain ⟨xk, xc, xo, xr, xs, er, xg, xm, HTk, hways⟩ := take_free x hx0.1 hx0.2
      have HT1 := Lib.hid hM.tab
      have HM := Lib.hid hM
      have HK := Lib.hid hK
      have HRow := Lib.hid hrow
      have HRd : Hid (∀ w', Kp [] wr w' → Calls Tryz.prog 49 #[.pointer (some ⟨p, 0, none⟩), .int .i64 P] w' fun e w2 => e = .returned (.int .u64 x) ∧ Mw T G n p r q vs1 s.1 s.2 (t + 2 * i + 1) w2 ∧ Kp [p, r] wr w2) := by
        refine Lib.hid fun w' k => ?_
        have h2 := HM.out.on k
        obtain ⟨t0, ht0, hh⟩ := h2.hw
        refine (rd_word hh (by have := HTt.out; omega) P hpf.2.2 P x rfl hx).mono ?_
        rintro e w2 ⟨rfl, h3, h4⟩
        exact ⟨rfl, h2.turn h4 ⟨t0 + 1, by omega, h3⟩ rfl, (k.mono (by simp)).trans h4⟩
      have hplt := hM.lt
      have hz : w.heap.size < wr.heap.size := lt_of_block hrow
      have HNe : Hid (w.heap.size ≠ p ∧ w.heap.size ≠ r) := Lib.hid (by have := hM.apart hrow (by decide) (by decide) (by decide) (by decide); exact ⟨this.1, this.2.1⟩)
      have cc : ∀ {j : Nat} {v : Value}, (mkC T G n p q o wk hd)[j]? = some v → wr.cell? ⟨w.heap.size, j, none⟩ = some v := fun hj => (cell_of_row hrow _).trans hj
      have r0 := cc (j := 0) rfl
      have r1 := cc (j := 1) rfl
      have r2 := cc (j := 2) rfl
      have r3 := cc (j := 3) rfl
      have r4 := cc (j := 4) rfl
      have r5 := cc (j := 5) rfl
      have r6 := cc (j := 6) rfl
      have r7 := cc (j := 7) rfl
      clear cc hx0 hM hK hrow hx hplt
      go_wp2_with fail
      refine (HPl.out _ HT1.out).mono ?_
      rintro e w2 ⟨rfl, hk2⟩
      have K2 := Lib.hid hk2
      have c0 : w2.cell? ⟨w.heap.size, 0, none⟩ = some (.iface 30 (.pointer (some ⟨p, 0, none⟩))) := cell_of_row (hk2.row (by simp) HRow.out) 0
      clear hk2 r0 r1 r2 r3 r4 r5 r6 r7
      go_wp2_with fail
      refine (HRd.out _ K2.out).mono ?_
      rintro e w3 ⟨rfl, h3, hk3⟩
      have M3 := Lib.hid h3
      have K3 := Lib.hid hk3
      clear h3 hk3 c0
      go_wp2_with fail
      refine (HTk.out _).mono ?_
      rintro e w4 ⟨rfl, hk4⟩
      have kA : Kp [] w4 (w4.alloc (.cells #[.int .u8 xk, .int .u8 xc, .bool xg, .bool xm, .int .u8 xo, .int .u8 xr, .int .u8 xs] 68)) := (Kp.refl _ _).alloc _
      have K5' := (K3.out.trans (hk4.mono (by simp))).trans (kA.mono (by simp))
      have row5 := K5'.row (by have := HNe.out; simp; omega) HRow.out
      have F5 := Lib.hid (And.intro ((M3.out.on hk4).on kA) (And.intro (HK.out.trans (Mk.of_kp (q := q) K5' (by simp))) row5))
      have cc : ∀ {j : Nat} {v : Value}, (mkC T G n p q o wk hd)[j]? = some v → (w4.alloc (.cells #[.int .u8 xk, .int .u8 xc, .bool xg, .bool xm, .int .u8 xo, .int .u8 xr, .int .u8 xs] 68)).cell? ⟨w.heap.size, j, none⟩ = some v := fun hj => (cell_of_row row5 _).trans hj
      have r0 := cc (j := 0) rfl
      have r1 := cc (j := 1) rfl
      have r2 := cc (j := 2) rfl
      have r3 := cc (j := 3) rfl
      have r4 := cc (j := 4) rfl
      have r5 := cc (j := 5) rfl
      have r6 := cc (j := 6) rfl
      have r7 := cc (j := 7) rfl
      clear kA K5' row5 cc hk4 M3 K3
      rcases hways with ⟨rfl, hfx⟩ | ⟨rfl, hk0, hfx⟩ | ⟨rfl, rfl, hfx⟩
      · have HE := Lib.hid (hS1.trans (if_neg (by rw [hfx]; simp)))
        clear hS1
        go_wp2_with fail
        go_roundg (m - (i + 1))
        case rel => exact ⟨i + 1, by omega, by go_num, Lib.hid ⟨vs1, by rw [HE.out]; exact F5.out.1.more (by omega), F5.out.2⟩⟩
        case measure => omega
      · have HE := Lib.hid (hS1.trans (if_neg (by rw [hfx]; simp)))
        clear hS1
        go_wp2_with fail
        go_roundg (m - (i + 1))
        case rel => exact ⟨i + 1, by omega, by go_num, Lib.hid ⟨vs1, by rw [HE.out]; exact F5.out.1.more (by omega), F5.out.2⟩⟩
        case measure => omega
      · have HE := Lib.hid (hS1.trans (if_pos hfx))
        have HWl := Lib.hid (a_writeListed (o := o) (wk := wk) (hd := hd) F5.out.1 (by have := HTt.out; omega) ho P hpf.2.2 (P : Int) rfl)
        have HP1 := Lib.hid hpf
        have HCc := Lib.hid hc
        have HLn := Lib.hid HL1
        clear hS1 hpf HL1
        go_wp2_with fail
        refine HWl.out.mono ?_
        rintro e w6 ⟨rfl, h6, hk6⟩
        have row6 := hk6.row (by have := HNe.out; simp; omega) F5.out.2.2
        have F6 := Lib.hid (And.intro h6 (And.intro (F5.out.2.1.trans (Mk.of_kp (q := q) hk6 (by simp))) row6))
        have c5 : w6.cell? ⟨w.heap.size, 5, none⟩ = some (.pointer (some ⟨q, 0, none⟩)) := cell_of_row row6 5
        have HPu := Lib.hid (Li.push_is w6 q vs1 s.2 c P h6.ls (h6.lk.len h6.sm))
        clear h6 hk6 row6 r0 r1 r2 r3 r4 r5 r6 r7
        go_wp2_with fail
        refine HPu.out.mono ?_
        rintro e w7 ⟨rfl, vs2, L7, K7⟩
        have F7 : Hid (∃ vs', Mw T G n p r q vs' (s.1.set P (lw o)) (Li.pushR s.2 c P) (t + 2 * (i + 1)) w7 ∧ Mk p r q vs vs' w w7 ∧ w7.heap[w.heap.size]? = some (.cells (mkC T G n p q o wk hd) 135 (0, 0))) := by
          have hP1 := HP1.out
          refine Lib.hid ⟨vs2, (F6.out.1.list L7 K7 ?_).more (by omega), F6.out.2.1.trans (Mk.of_lk K7), ?_⟩
          · exact F6.out.1.lk.push HCc.out (by omega) (by simpa using hP1.2.1)
          · exact F6.out.1.row (Mk.of_lk (p := p) (r := r) K7) F6.out.2.2 (by decide) (by decide) (by decide) (by decide)
        clear L7 K7 c5
        go_wp2_with fail
        go_roundg (m - (i + 1))
        case rel => exact ⟨i + 1, by omega, by go_num, Lib.hid (by rw [HE.out]; exact F7.out)⟩
        case measure => omega
    · obtain rfl : i = m := by omega
      have HF := Lib.hid (show ∃ vs', Mw T G n p r q vs' (lookS T G n o c b (H, R) i).1 (lookS T G n o c b (H, R) i).2 (t + 32) wr ∧ Mk p r q vs vs' w wr from by
        obtain ⟨vs', h1, h2, _⟩ := HR.out
        exact ⟨vs', h1.more (by omega), h2⟩)
      go_wp2_with fail
      go_end0
      exact ⟨rfl, HF.out⟩
end

end Go.Proofs.YtdbbkncjhnafdaaGreatDoor

namespace Go.Proofs.YtdbbkncjhnafdaaGreatDoor
set_option linter.unusedVariables false
set_option linter.unusedSimpArgs false
set_option maxRecDepth 100000
open Go.RowKit

/-- What a drawn region holds on to: the maker's box. -/
def Ms (a T G n p q o : Nat) (wk : Bool) (hd : Value) (F : World → Prop) (wx : World) : Prop :=
  wx.cell? ⟨a, 0, none⟩ = some (.iface 30 (.pointer (some ⟨p, 0, none⟩))) ∧ wx.cell? ⟨a, 1, none⟩ = some (.int .i64 T) ∧ wx.cell? ⟨a, 2, none⟩ = some (.int .i64 G) ∧ wx.cell? ⟨a, 3, none⟩ = some (.int .i64 n) ∧ wx.cell? ⟨a, 4, none⟩ = some (.int .u8 o) ∧ wx.cell? ⟨a, 5, none⟩ = some (.pointer (some ⟨q, 0, none⟩)) ∧ wx.cell? ⟨a, 6, none⟩ = some (.bool wk) ∧ wx.cell? ⟨a, 7, none⟩ = some hd ∧ F wx

section
variable {T G n p r q t o a : Nat} {wk : Bool} {hd : Value} {vs vs' : Nat → Value} {H : List Int} {R : Nat → List Int} {w w0 wx wy : World} {F : World → Prop}
theorem ms_of (h : w.heap[a]? = some (.cells (mkC T G n p q o wk hd) 135 (0, 0))) (hF : F w) : Ms a T G n p q o wk hd F w :=
  ⟨cell_of_row h 0, cell_of_row h 1, cell_of_row h 2, cell_of_row h 3, cell_of_row h 4, cell_of_row h 5, cell_of_row h 6, cell_of_row h 7, hF⟩
theorem ms_keep {S : List Nat} (h : Ms a T G n p q o wk hd F wx) (k : Kp S wx wy) (ha : a ∉ S) (hF : F wx → F wy) : Ms a T G n p q o wk hd F wy := by
  obtain ⟨h0, h1, h2, h3, h4, h5, h6, h7, h8⟩ := h
  exact ⟨kp_cell k ha h0, kp_cell k ha h1, kp_cell k ha h2, kp_cell k ha h3, kp_cell k ha h4, kp_cell k ha h5, kp_cell k ha h6, kp_cell k ha h7, hF h8⟩
theorem ms_mk (h : Ms a T G n p q o wk hd F wx) (k : Mk p r q vs vs' wx wy) (h1 : a ≠ p) (h2 : a ≠ r) (h3 : a ≠ q) (h4 : ¬ Li.Owns vs a) (hF : F wx → F wy) : Ms a T G n p q o wk hd F wy := by
  have hc : ∀ {i : Nat} {v : Value}, wx.cell? ⟨a, i, none⟩ = some v → wy.cell? ⟨a, i, none⟩ = some v := fun {i v} hv => (World.cell?_of_block (a := ⟨a, i, none⟩) (k.block _ (World.block_lt_of_cell? _ _ hv) h1 h2 h3 h4)).trans hv
  obtain ⟨g0, g1, g2, g3, g4, g5, g6, g7, g8⟩ := h
  exact ⟨hc g0, hc g1, hc g2, hc g3, hc g4, hc g5, hc g6, hc g7, hF g8⟩

set_option maxHeartbeats 8000000 in
theorem a_found (h : Mw T G n p r q vs H R t w) (ht : t ≤ 500000) (ho : o < 64) (c : Nat) (hc : c < 4) :
    Calls Tryz.prog 161 #[mkV T G n p q o wk hd, .int .i64 c] w fun e w' => e = .returned (.tuple #[.int .i64 (((foundP T G n o c (H, R)).2).getD 0), .bool (foundP T G n o c (H, R)).2.isSome]) ∧ ∃ vs', Mw T G n p r q vs' (foundP T G n o c (H, R)).1.1 (foundP T G n o c (H, R)).1.2 (t + 33 * n) w' ∧ Mk p r q vs vs' w w' := by
  have hf := h.fit
  have hB := Lib.hid (fun w => Ly.blocks_is T G n w)
  have HE : Hid (∀ w, Calls Tryz.prog 172 #[mkV T G n p q o wk hd, .int .i64 c] w fun e w' => e = .returned (.agg #[.int .u8 1, .int .u8 c, .int .u8 0, .int .u8 o]) ∧ Kp [] w w') := Lib.hid fun w => a_entry c hc w
  have HS : Hid (∀ b, foundS T G n o c (H, R) (b + 1) = if isE c o ((foundS T G n o c (H, R) b).1.getD (3 + T + G + b) 0) then lookS T G n o c b (foundS T G n o c (H, R) b) (Cl.clC c).toNat else foundS T G n o c (H, R) b) := Lib.hid fun b => rfl
  have HB : Hid (∀ w', Kp [] (mkW w T G n p q o wk hd) w' → ∃ vs', Mw T G n p r q vs' (foundS T G n o c (H, R) 0).1 (foundS T G n o c (H, R) 0).2 (t + 33 * 0) w' ∧ Mk p r q vs vs' w w' ∧ w'.heap[w.heap.size]? = some (.cells (mkC T G n p q o wk hd) 135 (0, 0))) :=
    Lib.hid fun w' k => ⟨vs, h.on ((mkW_kp w T G n p q o wk hd).trans k), Mk.of_kp ((mkW_kp w T G n p q o wk hd).trans k) (by simp), k.row (by simp) (mkW_row w T G n p q o wk hd)⟩
  have HTt := Lib.hid ht
  have HNn : Hid (n ≤ 64) := Lib.hid hf.2.2.2
  have HO := Lib.hid ho
  have HC := Lib.hid hc
  have HFin : Hid (∀ vs1 w1, Mw T G n p r q vs1 (foundS T G n o c (H, R) n).1 (foundS T G n o c (H, R) n).2 (t + 33 * n) w1 → Mk p r q vs vs1 w w1 → Calls Tryz.prog 160 #[mkV T G n p q o wk hd, .int .i64 c] w1 fun e w' => e = .returned (.tuple #[.int .i64 (((foundP T G n o c (H, R)).2).getD 0), .bool (foundP T G n o c (H, R)).2.isSome]) ∧ ∃ vs', Mw T G n p r q vs' (foundP T G n o c (H, R)).1.1 (foundP T G n o c (H, R)).1.2 (t + 33 * n) w' ∧ Mk p r q vs vs' w w') := by
    refine Lib.hid fun vs1 w1 hm hk => (a_listed (o := o) (wk := wk) (hd := hd) hm c hc).mono ?_
    rintro e w' ⟨rfl, vs2, h2, h3⟩
    exact ⟨rfl, vs2, h2, hk.trans h3⟩
  unfold mkW at HB
  generalize foundP T G n o c (H, R) = fin at HFin ⊢
  clear h hf ht ho hc
  go_enter Tryz.func161, Tryz.ntmps161
  have HB0 := HB
  unfold mkC at HB0
  go_wp2_with fail
  refine (hB.out _).mono ?_
  rintro e w1 ⟨rfl, hk1⟩
  have HB1 := Lib.hid (HB0.out w1 hk1)
  clear hk1 HB HB0
  go_wp2_with fail
  go_loopg [10] n (fun gg v10 wr => ∃ i : Nat, i + gg = n ∧ v10 = .int .i64 i ∧ Hid (∃ vs', Mw T G n p r q vs' (foundS T G n o c (H, R) i).1 (foundS T G n o c (H, R) i).2 (t + 33 * i) wr ∧ Mk p r q vs vs' w wr ∧ wr.heap[w.heap.size]? = some (.cells (mkC T G n p q o wk hd) 135 (0, 0))))
  case atStart => exact ⟨0, by omega, rfl, HB1⟩
  case round =>
    obtain ⟨i, hi, rfl, HR⟩ := hrel
    by_cases hlt2 : i < n
    · have hn64 := HNn.out
      obtain ⟨vs1, hM, hK, hrow⟩ := HR.out
      have hS1 := HS.out i
      generalize foundS T G n o c (H, R) i = s at hM hS1
      obtain ⟨x, hx⟩ : ∃ x, s.1.getD (3 + T + G + i) 0 = x := ⟨_, rfl⟩
      rw [hx] at hS1
      obtain ⟨u, hu⟩ : ∃ u, isE c o x = u := ⟨_, rfl⟩
      have hEq : ∀ w, (binOp .eql 116 (.agg #[.int .u8 (ek x), .int .u8 (ec x), .int .u8 (er x), .int .u8 (eo x)]) (.agg #[.int .u8 1, .int .u8 c, .int .u8 0, .int .u8 o])).run Tryz.prog w = .ok (.bool u) w := fun w => by rw [← hu]; exact Tb.eqT _ _ _ _ _ _ _ _ w
      have HM := Lib.hid hM
      have HK := Lib.hid hK
      have HRow := Lib.hid hrow
      have HRd : Hid (∀ w', Kp [] wr w' → Calls Tryz.prog 52 #[.iface 30 (.pointer (some ⟨p, 0, none⟩)), .agg #[.int .i64 T, .int .i64 G, .int .i64 n], .int .i64 i] w' fun e w2 => e = .returned (.agg #[.int .u8 (ek x), .int .u8 (ec x), .int .u8 (er x), .int .u8 (eo x)]) ∧ Mw T G n p r q vs1 s.1 s.2 (t + 33 * i + 1) w2 ∧ Kp [p, r] wr w2) := by
        refine Lib.hid fun w' k => ?_
        have h2 := HM.out.on k
        obtain ⟨t0, ht0, hh⟩ := h2.hw
        refine (g_entry hh (by have := HTt.out; have := HNn.out; omega) i hlt2 x hx).mono ?_
        rintro e w2 ⟨rfl, h3, h4⟩
        exact ⟨rfl, h2.turn h4 ⟨t0 + 1, by omega, h3⟩ rfl, (k.mono (by simp)).trans h4⟩
      have hap := hM.apart hrow (by decide) (by decide) (by decide) (by decide)
      have HNe : Hid (w.heap.size ≠ p ∧ w.heap.size ≠ r) := Lib.hid ⟨hap.1, hap.2.1⟩
      have HS0 := ms_of hrow (Kp.refl [p, r] wr)
      obtain ⟨r0, r1, r2, r3, r4, r5, r6, r7, -⟩ := HS0
      have HS0 := Lib.hid (ms_of hrow (Kp.refl [p, r] wr))
      clear hM hK hrow hx hap
      generalize ek x = xk at hEq HRd
      generalize ec x = xc at hEq HRd
      generalize er x = xr at hEq HRd
      generalize eo x = xo at hEq HRd
      go_wp2_with fail
      go_region_held3? (fun wx => wx.cell? ⟨w.heap.size, 0, none⟩ = some (.iface 30 (.pointer (some ⟨p, 0, none⟩))) ∧ wx.cell? ⟨w.heap.size, 1, none⟩ = some (.int .i64 T) ∧ wx.cell? ⟨w.heap.size, 2, none⟩ = some (.int .i64 G) ∧ wx.cell? ⟨w.heap.size, 3, none⟩ = some (.int .i64 n) ∧ wx.cell? ⟨w.heap.size, 4, none⟩ = some (.int .u8 o) ∧ wx.cell? ⟨w.heap.size, 5, none⟩ = some (.pointer (some ⟨q, 0, none⟩)) ∧ wx.cell? ⟨w.heap.size, 6, none⟩ = some (.bool wk) ∧ wx.cell? ⟨w.heap.size, 7, none⟩ = some hd ∧ Kp [p, r] wr wx)
        (first
          | assumption
          | exact ms_keep HS0.out ((Kp.refl [] _).drew) (by simp) (fun k => k.trans ((Kp.refl [p, r] _).drew))
          | exact ms_keep ‹Ms w.heap.size T G n p q o wk hd (Kp [p, r] wr) _› hk8 (by have := HNe.out; simp; omega) (fun k => k.trans hk8)
          | exact ms_keep ‹Ms w.heap.size T G n p q o wk hd (Kp [p, r] wr) _› hk9 (by simp) (fun k => k.trans (hk9.mono (by simp))))
        (first
        | (go_at_call 52
           refine (HRd.out _ ?_).mono ?_
           · exact ⟨rfl, rfl, rfl, Nat.le_refl _, fun _ _ _ => rfl⟩
           rintro e w4 ⟨rfl, hg, hk8⟩
           have G4 := Lib.hid hg
           have K4 : Hid (Kp [p, r] wr w4) := Lib.hid hk8
           clear hg)
        | (go_at_call 172; refine (HE.out _).mono ?_; rintro e w5 ⟨rfl, hk9⟩
           have K5 : Hid (Kp [p, r] wr w5 ∧ Mw T G n p r q vs1 s.1 s.2 (t + 33 * i + 1) w5) := Lib.hid (by
             have kk : Kp [] w4 w5 := by refine Kp.trans ?_ hk9; exact ⟨rfl, rfl, rfl, Nat.le_refl _, fun _ _ _ => rfl⟩
             exact ⟨K4.out.trans (kk.mono (by simp)), G4.out.on kk⟩)))
      all_goals
        rename_i hHeld
        obtain ⟨r0, r1, r2, r3, r4, r5, r6, r7, -⟩ := hHeld
        have hrow5 := K5.out.1.row (by have := HNe.out; simp; omega) HRow.out
        have F5 := Lib.hid (And.intro K5.out.2 (And.intro (HK.out.trans (Mk.of_kp (q := q) K5.out.1 (by simp))) hrow5))
        have HLk := Lib.hid (a_look (o := o) (wk := wk) (hd := hd) K5.out.2 (by have := HTt.out; have := HNn.out; omega) HO.out i c hlt2 HC.out)
        clear hrow5 K4 K5 G4 hk9 hk8 HS0
        cases u
        · have HEE := Lib.hid (hS1.trans (if_neg (by rw [hu]; simp)))
          clear hS1
          go_wp2_with fail
          go_roundg (n - (i + 1))
          case rel => exact ⟨i + 1, by omega, by go_num, Lib.hid ⟨vs1, by rw [HEE.out]; exact F5.out.1.more (by omega), F5.out.2⟩⟩
          case measure => omega
        · have HEE := Lib.hid (hS1.trans (if_pos hu))
          clear hS1
          go_wp2_with fail
          refine HLk.out.mono ?_
          rintro e w6 ⟨rfl, vs2, h6, hk6⟩
          have F6 : Hid (∃ vs', Mw T G n p r q vs' (foundS T G n o c (H, R) (i + 1)).1 (foundS T G n o c (H, R) (i + 1)).2 (t + 33 * (i + 1)) w6 ∧ Mk p r q vs vs' w w6 ∧ w6.heap[w.heap.size]? = some (.cells (mkC T G n p q o wk hd) 135 (0, 0))) := by
            refine Lib.hid ⟨vs2, by rw [HEE.out]; exact h6.more (by omega), F5.out.2.1.trans hk6, F5.out.1.row hk6 F5.out.2.2 (by decide) (by decide) (by decide) (by decide)⟩
          clear h6 hk6 r0 r1 r2 r3 r4 r5 r6 r7
          go_wp2_with fail
          go_roundg (n - (i + 1))
          case rel => exact ⟨i + 1, by omega, by go_num, F6⟩
          case measure => omega
    · obtain rfl : i = n := by omega
      obtain ⟨vs1, hM, hK, hrow⟩ := HR.out
      have HL := Lib.hid (HFin.out vs1 wr hM hK)
      have HS0 := ms_of (F := fun _ => True) hrow trivial
      obtain ⟨r0, r1, r2, r3, r4, r5, r6, r7, -⟩ := HS0
      clear hM hK hrow HFin
      go_wp2_with fail
      refine HL.out.mono ?_
      rintro e w2 ⟨rfl, h2⟩
      have H2 := Lib.hid h2
      clear h2
      go_wp2_with fail
      go_ret2
      exact ⟨rfl, H2.out⟩

theorem ent_may (c o : Nat) (hc : c < 4) (ho : o < 64) : Tb.mayE 1 c 0 o = true := by
  rw [Tb.mayE_iff]; omega

set_option maxHeartbeats 16000000 in
theorem a_carved (h : Mw T G n p r q vs H R t w) (ht : t ≤ 500000) (ho : o < 64) (c : Nat) (hc : c < 4) :
    Calls Tryz.prog 162 #[mkV T G n p q o wk hd, .int .i64 c] w fun e w' => e = .returned (.tuple #[.int .i64 (((carveS T G n o wk c (H, R)).2).getD 0), .bool (carveS T G n o wk c (H, R)).2.isSome]) ∧ ∃ vs', Mw T G n p r q vs' (carveS T G n o wk c (H, R)).1.1 (carveS T G n o wk c (H, R)).1.2 (t + 5 * n + 20) w' ∧ Mk p r q vs vs' w w' := by
  have hf := h.fit
  have hlt := h.lt
  have hm : (Cl.clC c).toNat ≤ 16 := by rcases Li.four hc with rfl | rfl | rfl | rfl <;> decide
  have hcl : Cl.clC c = ((Cl.clC c).toNat : Nat) := by rcases Li.four hc with rfl | rfl | rfl | rfl <;> decide
  have HMm := Lib.hid hm
  have HTi : Hid (Calls Tryz.prog 164 #[mkV T G n p q o wk hd] (mkW w T G n p q o wk hd) fun e w' => e = .returned (.tuple #[]) ∧ Mw T G n p r q vs (tidyH T G n o wk H) R (t + 5 * n) w' ∧ Kp [p, r] w w' ∧ w'.heap[w.heap.size]? = some (.cells (mkC T G n p q o wk hd) 135 (0, 0))) := by
    refine Lib.hid ((a_tidy (o := o) (wk := wk) (hd := hd) (h.on (mkW_kp w T G n p q o wk hd)) (by omega)).mono ?_)
    rintro e w' ⟨rfl, h1, h2⟩
    exact ⟨rfl, h1, ((mkW_kp w T G n p q o wk hd).mono (by simp)).trans h2, h2.row (by simp; omega) (mkW_row w T G n p q o wk hd)⟩
  have HC : Hid (∀ w1, Mw T G n p r q vs (tidyH T G n o wk H) R (t + 5 * n) w1 → Calls Tryz.prog 163 #[mkV T G n p q o wk hd, .int .i64 1] w1 fun e w' => e = .returned (.tuple #[.int .i64 (((claimH n (tidyH T G n o wk H) 1).2.getD 0 : Nat)), .bool (claimH n (tidyH T G n o wk H) 1).2.isSome]) ∧ Mw T G n p r q vs (claimH n (tidyH T G n o wk H) 1).1 R (t + 5 * n + 1) w' ∧ Kp [p, r] w1 w') :=
    Lib.hid fun w1 h1 => a_claim h1 (by omega) 1 (by omega)
  have HW : Hid (∀ b, (claimH n (tidyH T G n o wk H) 1).2 = some b → b < n) := by
    refine Lib.hid fun b hb => ?_
    unfold claimH at hb
    split at hb
    · simp at hb
    · simp only at hb
      split at hb
      · simp only [Option.some.injEq] at hb; omega
      · simp at hb
  have HLen : Hid ((claimH n (tidyH T G n o wk H) 1).1.length = H.length) := Lib.hid (by rw [claimH_len, tidyH_len])
  have HCar : Hid (carveS T G n o wk c (H, R) = match (claimH n (tidyH T G n o wk H) 1).2 with | none => (((claimH n (tidyH T G n o wk H) 1).1, R), none) | some b => popS (cutS T G n o c ((claimH n (tidyH T G n o wk H) 1).1, R) b) c) := Lib.hid rfl
  have HCl : Hid (∀ w (tb : Cl.Tab w), Calls Tryz.prog 113 #[.int .i64 c] w fun e w' => e = .returned (.int .i64 ((Cl.clC c).toNat : Nat)) ∧ w = w') := by
    refine Lib.hid fun w tb => ?_
    rw [← hcl]
    exact Cl.cells_is w tb c _ rfl
  have HF := Lib.hid hf
  have HTt := Lib.hid ht
  have HO := Lib.hid ho
  have HCc := Lib.hid hc
  have HNe : Hid (w.heap.size ≠ p ∧ w.heap.size ≠ r ∧ w.heap.size ≠ q) := Lib.hid (by omega)
  generalize (claimH n (tidyH T G n o wk H) 1).1 = Hc at HC HLen HCar
  generalize (claimH n (tidyH T G n o wk H) 1).2 = res at HC HW HCar
  generalize carveS T G n o wk c (H, R) = fin at HCar ⊢
  generalize tidyH T G n o wk H = H1 at HTi HC
  unfold mkW at HTi
  clear h hf ht ho hc hm hcl hlt
  go_enter Tryz.func162, Tryz.ntmps162
  have HTi0 := HTi
  unfold mkC at HTi0
  go_wp2_with fail
  refine HTi0.out.mono ?_
  rintro e w1 ⟨rfl, h1, hk1, hrow1⟩
  have HC1 := Lib.hid (HC.out w1 h1)
  obtain ⟨r0, r1, r2, r3, r4, r5, r6, r7, -⟩ := ms_of (F := fun _ => True) (show w1.heap[w.heap.size]? = some (.cells (mkC T G n p q o wk hd) 135 (0, 0)) from hrow1) trivial
  have F1 := Lib.hid (And.intro hk1 (show w1.heap[w.heap.size]? = some (.cells (mkC T G n p q o wk hd) 135 (0, 0)) from hrow1))
  clear h1 hk1 hrow1 HTi HTi0 HC
  go_wp2_with fail
  refine HC1.out.mono ?_
  rintro e w2 ⟨rfl, h2, hk2⟩
  have F2 := Lib.hid (And.intro h2 (And.intro (F1.out.1.trans hk2) (hk2.row (by have := HNe.out; simp; omega) F1.out.2)))
  clear h2 hk2 r0 r1 r2 r3 r4 r5 r6 r7
  cases res with
  | none =>
    have hfin : fin = ((Hc, R), none) := HCar.out
    have F3 : Hid (∃ vs', Mw T G n p r q vs' fin.1.1 fin.1.2 (t + 5 * n + 20) w2 ∧ Mk p r q vs vs' w w2) := Lib.hid (by rw [hfin]; exact ⟨vs, F2.out.1.more (by omega), Mk.of_kp F2.out.2.1 (by simp)⟩)
    have F4 : Hid (((fin.2).getD 0 = 0) ∧ fin.2.isSome = false) := Lib.hid (by rw [hfin]; exact ⟨rfl, rfl⟩)
    clear hfin HCar HW HC1
    go_wp2_with fail
    go_ret2
    exact ⟨by rw [F4.out.1, F4.out.2]; rfl, F3.out⟩
  | some b =>
    have hb := HW.out b rfl
    have HCar2 : Hid (fin = popS (cutS T G n o c (Hc, R) b) c) := HCar
    clear HCar HW HC1
    obtain ⟨m, hmm⟩ : ∃ m, m = (Cl.clC c).toNat := ⟨_, rfl⟩
    have HCl2 := Lib.hid (HCl.out w2 F2.out.1.tab)
    have hm16 := HMm.out
    rw [← hmm] at HCl2 hm16
    have HMM := Lib.hid hmm
    have HBn := Lib.hid hb
    have HPl : Hid (∀ (i : Nat) (w' : World), i < m → Cl.Tab w' → Calls Tryz.prog 175 #[mkV T G n p q o wk hd, .int .i64 b, .int .i64 c, .int .i64 i] w' fun e w2 => e = .returned (.int .i64 (pl T G n c b i)) ∧ Kp [] w' w2) := Lib.hid fun i w' hi tb => a_place HF.out.2.1 HF.out.2.2.1 HF.out.2.2.2 tb c b i HCc.out HBn.out (by rw [← HMM.out]; exact hi)
    have HPf : Hid (∀ i, i < m → 1 ≤ pl T G n c b i ∧ (pl T G n c b i : Int) + Cl.wdC c ≤ H.length ∧ pl T G n c b i < H.length) := Lib.hid fun i hi => pl_fit (T := T) (G := G) HCc.out HBn.out (by rw [← HMM.out]; exact hi) HF.out.1
    clear hmm hb HCl HMm
    go_wp2_with fail
    refine HCl2.out.mono ?_
    rintro e w3 ⟨rfl, rfl⟩
    clear HCl2
    go_wp2_with fail
    go_loopg [23] m (fun gg v23 wr => ∃ i : Nat, i + gg = m ∧ v23 = .int .i64 i ∧ Hid (Mw T G n p r q vs (markS T G n o c b Hc i) R (t + 5 * n + 1 + i) wr ∧ Kp [p, r] w wr ∧ wr.heap[w.heap.size]? = some (.cells (mkC T G n p q o wk hd) 135 (0, 0))))
    case atStart => exact ⟨0, by omega, rfl, Lib.hid ⟨F2.out.1, F2.out.2.1, F2.out.2.2⟩⟩
    case round =>
      obtain ⟨i, hi, rfl, HR⟩ := hrel
      obtain ⟨r0, r1, r2, r3, r4, r5, r6, r7, -⟩ := ms_of (F := fun _ => True) HR.out.2.2 trivial
      by_cases hlt2 : i < m
      · have HPi := Lib.hid (fun w' => HPl.out i w' hlt2)
        have hpf := HPf.out i hlt2
        have HWl : Hid (∀ w', Kp [] wr w' → Calls Tryz.prog 174 #[mkV T G n p q o wk hd, .int .i64 (pl T G n c b i)] w' fun e w2 => e = .returned (.tuple #[]) ∧ Mw T G n p r q vs (markS T G n o c b Hc (i + 1)) R (t + 5 * n + 1 + (i + 1)) w2 ∧ Kp [p, r] w' w2) := by
          refine Lib.hid fun w' k => (a_writeListed (o := o) (wk := wk) (hd := hd) (HR.out.1.on k) (by have := HTt.out; have := HF.out.2.2.2; omega) HO.out _ (by rw [markS_len, HLen.out]; exact hpf.2.2) _ rfl).mono ?_
          rintro e w2 ⟨rfl, h1, h2⟩
          exact ⟨rfl, h1, h2⟩
        have HT1 := Lib.hid HR.out.1.tab
        have HS0 := Lib.hid (ms_of HR.out.2.2 (Kp.refl [p, r] wr))
        clear hpf
        generalize pl T G n c b i = P at HPi HWl
        go_wp2_with fail
        go_region_held3 (fun wx => wx.cell? ⟨w.heap.size, 0, none⟩ = some (.iface 30 (.pointer (some ⟨p, 0, none⟩))) ∧ wx.cell? ⟨w.heap.size, 1, none⟩ = some (.int .i64 T) ∧ wx.cell? ⟨w.heap.size, 2, none⟩ = some (.int .i64 G) ∧ wx.cell? ⟨w.heap.size, 3, none⟩ = some (.int .i64 n) ∧ wx.cell? ⟨w.heap.size, 4, none⟩ = some (.int .u8 o) ∧ wx.cell? ⟨w.heap.size, 5, none⟩ = some (.pointer (some ⟨q, 0, none⟩)) ∧ wx.cell? ⟨w.heap.size, 6, none⟩ = some (.bool wk) ∧ wx.cell? ⟨w.heap.size, 7, none⟩ = some hd ∧ Kp [p, r] wr wx)
          (first
            | assumption
            | exact ms_keep HS0.out ((Kp.refl [] _).drew) (by simp) (fun k => k.trans ((Kp.refl [p, r] _).drew))
            | exact ms_keep ‹Ms w.heap.size T G n p q o wk hd (Kp [p, r] wr) _› hk8 (by have := HNe.out; simp; omega) (fun k => k.trans hk8)
            | exact ms_keep ‹Ms w.heap.size T G n p q o wk hd (Kp [p, r] wr) _› hk9 (by simp) (fun k => k.trans (hk9.mono (by simp))))
          (first
          | (go_at_call 175
             refine (HPi.out _ ?_).mono ?_
             · exact tab_keep HT1.out (S := []) ⟨rfl, rfl, rfl, Nat.le_refl _, fun _ _ _ => rfl⟩ (by simp)
             rintro e w4 ⟨rfl, hk9⟩
             have K4 : Hid (Kp [] wr w4) := Lib.hid (by refine Kp.trans ?_ hk9; exact ⟨rfl, rfl, rfl, Nat.le_refl _, fun _ _ _ => rfl⟩))
          | (go_at_call 174
             refine (HWl.out _ ?_).mono ?_
             · exact K4.out.trans ⟨rfl, rfl, rfl, Nat.le_refl _, fun _ _ _ => rfl⟩
             rintro e w5 ⟨rfl, hg, hk8⟩
             have G5 : Hid (_ ∧ Kp [p, r] wr w5) := Lib.hid (And.intro hg ((K4.out.mono (by simp)).trans (by refine Kp.trans ?_ hk8; exact ⟨rfl, rfl, rfl, Nat.le_refl _, fun _ _ _ => rfl⟩)))
             clear hg))
        all_goals
          rename_i hHeld
          clear hHeld
          go_wp2_with fail
          go_roundg (m - (i + 1))
          case rel => exact ⟨i + 1, by omega, by go_num, Lib.hid ⟨G5.out.1, HR.out.2.1.trans G5.out.2, G5.out.2.row (by have := HNe.out; simp; omega) HR.out.2.2⟩⟩
          case measure => omega
      · obtain rfl : i = m := by omega
        have hM5 := HR.out.1
        have HLm : Hid ((markS T G n o c b Hc i).length = H.length) := Lib.hid (by rw [markS_len, HLen.out])
        have HCut : Hid (cutS T G n o c (Hc, R) b = ((markS T G n o c b Hc i).set (3 + T + G + b) (Tb.wordE 1 c 0 o), pushS T G n c b i R i)) := Lib.hid (by unfold cutS; rw [← HMM.out])
        generalize markS T G n o c b Hc i = Hm at hM5 HLm HCut
        have HSet : Hid (∀ w', Kp [] wr w' → Calls Tryz.prog 126 #[.iface 30 (.pointer (some ⟨p, 0, none⟩)), .agg #[.int .i64 T, .int .i64 G, .int .i64 n], .int .i64 b, .agg #[.int .u8 1, .int .u8 c, .int .u8 0, .int .u8 o]] w' fun e w2 => e = .returned (.tuple #[]) ∧ Mw T G n p r q vs (Hm.set (3 + T + G + b) (Tb.wordE 1 c 0 o)) R (t + 5 * n + 20) w2 ∧ Kp [p, r] w' w2) := by
          refine Lib.hid fun w' k => ?_
          have h2 := hM5.on k
          obtain ⟨t0, ht0, hh⟩ := h2.hw
          refine (g_set_in hh (by have := HTt.out; have := HF.out.2.2.2; omega) b HBn.out 1 c 0 o (by decide) (by omega) (by decide) (by omega) (ent_may c o HCc.out HO.out)).mono ?_
          rintro e w2 ⟨rfl, h3, h4⟩
          exact ⟨rfl, h2.turn h4 ⟨t0 + 1, by omega, h3⟩ (by simp), h4⟩
        have HE : Hid (∀ w, Calls Tryz.prog 172 #[mkV T G n p q o wk hd, .int .i64 c] w fun e w' => e = .returned (.agg #[.int .u8 1, .int .u8 c, .int .u8 0, .int .u8 o]) ∧ Kp [] w w') := Lib.hid fun w => a_entry c HCc.out w
        have HS0 := Lib.hid (ms_of HR.out.2.2 (Kp.refl [p, r] wr))
        have HK5 := Lib.hid HR.out.2
        generalize Hm.set (3 + T + G + b) (Tb.wordE 1 c 0 o) = H5 at HSet HCut
        clear hM5 HR
        go_wp2_with fail
        go_region_held3 (fun wx => wx.cell? ⟨w.heap.size, 0, none⟩ = some (.iface 30 (.pointer (some ⟨p, 0, none⟩))) ∧ wx.cell? ⟨w.heap.size, 1, none⟩ = some (.int .i64 T) ∧ wx.cell? ⟨w.heap.size, 2, none⟩ = some (.int .i64 G) ∧ wx.cell? ⟨w.heap.size, 3, none⟩ = some (.int .i64 n) ∧ wx.cell? ⟨w.heap.size, 4, none⟩ = some (.int .u8 o) ∧ wx.cell? ⟨w.heap.size, 5, none⟩ = some (.pointer (some ⟨q, 0, none⟩)) ∧ wx.cell? ⟨w.heap.size, 6, none⟩ = some (.bool wk) ∧ wx.cell? ⟨w.heap.size, 7, none⟩ = some hd ∧ Kp [p, r] wr wx)
          (first
            | assumption
            | exact ms_keep HS0.out ((Kp.refl [] _).drew) (by simp) (fun k => k.trans ((Kp.refl [p, r] _).drew))
            | exact ms_keep ‹Ms w.heap.size T G n p q o wk hd (Kp [p, r] wr) _› hk8 (by have := HNe.out; simp; omega) (fun k => k.trans hk8)
            | exact ms_keep ‹Ms w.heap.size T G n p q o wk hd (Kp [p, r] wr) _› hk9 (by simp) (fun k => k.trans (hk9.mono (by simp))))
          (first
          | (go_at_call 172
             refine (HE.out _).mono ?_
             rintro e w4 ⟨rfl, hk9⟩
             have K4 : Hid (Kp [] wr w4) := Lib.hid (by refine Kp.trans ?_ hk9; exact ⟨rfl, rfl, rfl, Nat.le_refl _, fun _ _ _ => rfl⟩))
          | (go_at_call 126
             refine (HSet.out _ ?_).mono ?_
             · exact K4.out.trans ⟨rfl, rfl, rfl, Nat.le_refl _, fun _ _ _ => rfl⟩
             rintro e w5 ⟨rfl, hg, hk8⟩
             have G5 : Hid (_ ∧ Kp [p, r] wr w5) := Lib.hid (And.intro hg ((K4.out.mono (by simp)).trans (by refine Kp.trans ?_ hk8; exact ⟨rfl, rfl, rfl, Nat.le_refl _, fun _ _ _ => rfl⟩)))
             clear hg))
        all_goals
          rename_i hHeld
          clear hHeld
          have HB5 : Hid (∃ vs', Mw T G n p r q vs' H5 (pushS T G n c b i R 0) (t + 5 * n + 20) w5 ∧ Mk p r q vs vs' w w5 ∧ w5.heap[w.heap.size]? = some (.cells (mkC T G n p q o wk hd) 135 (0, 0))) :=
            Lib.hid ⟨vs, G5.out.1, Mk.of_kp (HK5.out.1.trans G5.out.2) (by simp), G5.out.2.row (by have := HNe.out; simp; omega) HK5.out.2⟩
          clear G5 K4 hk8 hk9 HS0 HK5 HSet HE
          go_wp2_with fail
          go_loopg [44] i (fun gg v44 wr => ∃ j : Nat, j + gg = i ∧ v44 = .int .i64 j ∧ Hid (∃ vs', Mw T G n p r q vs' H5 (pushS T G n c b i R j) (t + 5 * n + 20) wr ∧ Mk p r q vs vs' w wr ∧ wr.heap[w.heap.size]? = some (.cells (mkC T G n p q o wk hd) 135 (0, 0))))
          case atStart => exact ⟨0, by omega, rfl, HB5⟩
          case round =>
            obtain ⟨j, hj, rfl, HR⟩ := hrel
            obtain ⟨vs1, hM, hK, hrow⟩ := HR.out
            obtain ⟨r0, r1, r2, r3, r4, r5, r6, r7, -⟩ := ms_of (F := fun _ => True) hrow trivial
            by_cases hlt3 : j < i
            · have hap := hM.apart hrow (by decide) (by decide) (by decide) (by decide)
              have HAp := Lib.hid hap
              have HM := Lib.hid hM
              have HK := Lib.hid hK
              have HRow := Lib.hid hrow
              obtain ⟨k, hk⟩ : ∃ k, k = i - 1 - j := ⟨_, rfl⟩
              have e1 := IntWalk.i64_in ((i : Int) - 1) (by omega)
              have e3 : (i : Int) - 1 - j = (k : Int) := by omega
              have e5 := IntWalk.i64_in (k : Int) (by omega)
              have HPk := Lib.hid (fun w' => HPl.out k w' (by omega))
              have hpf := HPf.out k (by omega)
              have HPu : Hid (∀ w', Kp [] wr w' → Calls Tryz.prog 151 #[.pointer (some ⟨q, 0, none⟩), .int .i64 c, .int .i64 (pl T G n c b k)] w' fun e w2 => (∃ z, e = .returned (.int .i64 z)) ∧ ∃ vs2, Mw T G n p r q vs2 H5 (pushS T G n c b i R (j + 1)) (t + 5 * n + 20) w2 ∧ Mk p r q vs1 vs2 w' w2) := by
                refine Lib.hid fun w' k' => ?_
                have h2 := HM.out.on k'
                have hlen : H5.length = H.length := by
                  have := congrArg (fun z => z.1.length) HCut.out
                  simp only [cutS] at this
                  rw [← this]
                  simp [markS_len, HLen.out]
                have hS : pushS T G n c b i R (j + 1) = Li.pushR (pushS T G n c b i R j) c (pl T G n c b k) := by rw [hk]; rfl
                rw [hS]
                refine (Li.push_is w' q vs1 _ c (pl T G n c b k) h2.ls (h2.lk.len h2.sm)).mono ?_
                rintro e w2 ⟨rfl, vs2, L, K⟩
                exact ⟨⟨_, rfl⟩, vs2, h2.list L K (h2.lk.push HCc.out (by omega) (by rw [hlen]; exact hpf.2.1)), Mk.of_lk K⟩
              have HT1 := Lib.hid hM.tab
              have HS0 := Lib.hid (ms_of (F := fun wx => ∃ vs', Mk p r q vs1 vs' wr wx) hrow ⟨vs1, Mk.refl _⟩)
              clear hpf hk hM hK hrow hap
              generalize pl T G n c b k = P at HPk HPu
              go_wp2_with fail
              go_region_held3? (fun wx => wx.cell? ⟨w.heap.size, 0, none⟩ = some (.iface 30 (.pointer (some ⟨p, 0, none⟩))) ∧ wx.cell? ⟨w.heap.size, 1, none⟩ = some (.int .i64 T) ∧ wx.cell? ⟨w.heap.size, 2, none⟩ = some (.int .i64 G) ∧ wx.cell? ⟨w.heap.size, 3, none⟩ = some (.int .i64 n) ∧ wx.cell? ⟨w.heap.size, 4, none⟩ = some (.int .u8 o) ∧ wx.cell? ⟨w.heap.size, 5, none⟩ = some (.pointer (some ⟨q, 0, none⟩)) ∧ wx.cell? ⟨w.heap.size, 6, none⟩ = some (.bool wk) ∧ wx.cell? ⟨w.heap.size, 7, none⟩ = some hd ∧ ∃ vs', Mk p r q vs1 vs' wr wx)
                (first
                  | assumption
                  | exact ms_keep HS0.out ((Kp.refl [] _).drew) (by simp) (fun ⟨v, k⟩ => ⟨v, k.trans (Mk.of_kp ((Kp.refl [] _).drew) (by simp))⟩)
                  | exact ms_keep ‹Ms w.heap.size T G n p q o wk hd (fun wx => ∃ vs', Mk p r q vs1 vs' wr wx) _› hk9 (by simp) (fun ⟨v, k⟩ => ⟨v, k.trans (Mk.of_kp hk9 (by simp))⟩)
                  | exact ms_mk ‹Ms w.heap.size T G n p q o wk hd (fun wx => ∃ vs', Mk p r q vs1 vs' wr wx) _› hk8 HAp.out.1 HAp.out.2.1 HAp.out.2.2.1 HAp.out.2.2.2 (fun _ => ⟨_, G5.out.2⟩))
                (first
                | (go_at_call 175
                   refine (HPk.out _ ?_).mono ?_
                   · exact tab_keep HT1.out (S := []) ⟨rfl, rfl, rfl, Nat.le_refl _, fun _ _ _ => rfl⟩ (by simp)
                   rintro e w6 ⟨rfl, hk9⟩
                   have K6 : Hid (Kp [] wr w6) := Lib.hid (by refine Kp.trans ?_ hk9; exact ⟨rfl, rfl, rfl, Nat.le_refl _, fun _ _ _ => rfl⟩))
                | (go_at_call 151
                   refine (HPu.out _ ?_).mono ?_
                   · exact K6.out.trans ⟨rfl, rfl, rfl, Nat.le_refl _, fun _ _ _ => rfl⟩
                   rintro e w7 ⟨⟨z, rfl⟩, vs2, hg, hk8⟩
                   have G5 : Hid (_ ∧ Mk p r q vs1 vs2 wr w7) := Lib.hid (And.intro hg ((Mk.of_kp K6.out (by simp)).trans ((Mk.of_kp (S := []) ⟨rfl, rfl, rfl, Nat.le_refl _, fun _ _ _ => rfl⟩ (by simp)).trans hk8)))
                   clear hg))
              all_goals
                rename_i hHeld
                clear hHeld
                go_wp2_with fail
                go_roundg (i - (j + 1))
                case rel => exact ⟨j + 1, by omega, by go_num, Lib.hid ⟨vs2, G5.out.1, HK.out.trans G5.out.2, HM.out.row G5.out.2 HRow.out (by decide) (by decide) (by decide) (by decide)⟩⟩
                case measure => omega
            · obtain rfl : j = i := by omega
              have HFin : Hid (Calls Tryz.prog 160 #[mkV T G n p q o wk hd, .int .i64 c] wr fun e w' => e = .returned (.tuple #[.int .i64 (fin.2.getD 0), .bool fin.2.isSome]) ∧ ∃ vs', Mw T G n p r q vs' fin.1.1 fin.1.2 (t + 5 * n + 20) w' ∧ Mk p r q vs vs' w w') := by
                have hfin := HCar2.out
                rw [HCut.out] at hfin
                rw [hfin]
                refine Lib.hid ((a_listed (o := o) (wk := wk) (hd := hd) hM c HCc.out).mono ?_)
                rintro e w' ⟨rfl, vs2, h2, h3⟩
                exact ⟨rfl, vs2, h2, hK.trans h3⟩
              clear hM hK hrow HCar2
              go_wp2_with fail
              refine HFin.out.mono ?_
              rintro e w8 ⟨rfl, h2⟩
              have H2 := Lib.hid h2
              clear h2
              go_wp2_with fail
              go_ret2
              exact ⟨rfl, H2.out⟩
end

end Go.Proofs.YtdbbkncjhnafdaaGreatDoor
