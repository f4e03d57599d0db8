/- The walks of package alloc: looking for more, carving. Conditions: as each theorem states them. -/
import Derived.Test.YtinkpbenmfnnhaaDoorAlAB
import Derived.Deep.RegionHeld3
namespace Go.Proofs.YtinkpbenmfnnhaaDoor
set_option linter.unusedVariables false
set_option linter.unusedSimpArgs false
set_option maxRecDepth 100000
open Go.RowKit

/-- What a drawn region holds on to: the maker's box. -/
def Ms (a T G n p q o : Nat) (wk : Bool) (hd : Value) (F : World → Prop) (wx : World) : Prop :=
  wx.cell? ⟨a, 0, none⟩ = some (.iface 27 (.pointer (some ⟨p, 0, none⟩))) ∧ wx.cell? ⟨a, 1, none⟩ = some (.int .i64 T) ∧ wx.cell? ⟨a, 2, none⟩ = some (.int .i64 G) ∧ wx.cell? ⟨a, 3, none⟩ = some (.int .i64 n) ∧ wx.cell? ⟨a, 4, none⟩ = some (.int .u8 o) ∧ wx.cell? ⟨a, 5, none⟩ = some (.pointer (some ⟨q, 0, none⟩)) ∧ wx.cell? ⟨a, 6, none⟩ = some (.bool wk) ∧ wx.cell? ⟨a, 7, none⟩ = some hd ∧ F wx

section
variable {T G n p r q t o a : Nat} {wk : Bool} {hd : Value} {vs vs' : Nat → Value} {H : List Int} {R : Nat → List Int} {w w0 wx wy : World} {F : World → Prop}
theorem ms_of (h : w.heap[a]? = some (.cells (mkC T G n p q o wk hd) 46 (0, 0))) (hF : F w) : Ms a T G n p q o wk hd F w :=
  ⟨cell_of_row h 0, cell_of_row h 1, cell_of_row h 2, cell_of_row h 3, cell_of_row h 4, cell_of_row h 5, cell_of_row h 6, cell_of_row h 7, hF⟩
theorem ms_keep {S : List Nat} (h : Ms a T G n p q o wk hd F wx) (k : Kp S wx wy) (ha : a ∉ S) (hF : F wx → F wy) : Ms a T G n p q o wk hd F wy := by
  obtain ⟨h0, h1, h2, h3, h4, h5, h6, h7, h8⟩ := h
  exact ⟨kp_cell k ha h0, kp_cell k ha h1, kp_cell k ha h2, kp_cell k ha h3, kp_cell k ha h4, kp_cell k ha h5, kp_cell k ha h6, kp_cell k ha h7, hF h8⟩
theorem ms_mk (h : Ms a T G n p q o wk hd F wx) (k : Mk p r q vs vs' wx wy) (h1 : a ≠ p) (h2 : a ≠ r) (h3 : a ≠ q) (h4 : ¬ Li.Owns vs a) (hF : F wx → F wy) : Ms a T G n p q o wk hd F wy := by
  have hc : ∀ {i : Nat} {v : Value}, wx.cell? ⟨a, i, none⟩ = some v → wy.cell? ⟨a, i, none⟩ = some v := fun {i v} hv => (World.cell?_of_block (a := ⟨a, i, none⟩) (k.block _ (World.block_lt_of_cell? _ _ hv) h1 h2 h3 h4)).trans hv
  obtain ⟨g0, g1, g2, g3, g4, g5, g6, g7, g8⟩ := h
  exact ⟨hc g0, hc g1, hc g2, hc g3, hc g4, hc g5, hc g6, hc g7, hF g8⟩

set_option maxHeartbeats 8000000 in
theorem a_found (h : Mw T G n p r q vs H R t w) (ht : t ≤ 500000) (ho : o < 64) (c : Nat) (hc : c < 4) :
    Calls Tryd.prog 34 #[mkV T G n p q o wk hd, .int .i64 c] w fun e w' => e = .returned (.tuple #[.int .i64 (((foundP T G n o c (H, R)).2).getD 0), .bool (foundP T G n o c (H, R)).2.isSome]) ∧ ∃ vs', Mw T G n p r q vs' (foundP T G n o c (H, R)).1.1 (foundP T G n o c (H, R)).1.2 (t + 33 * n) w' ∧ Mk p r q vs vs' w w' := by
  have hf := h.fit
  have hB := Lib.hid (fun w => Ly.blocks_is T G n w)
  have HE : Hid (∀ w, Calls Tryd.prog 45 #[mkV T G n p q o wk hd, .int .i64 c] w fun e w' => e = .returned (.agg #[.int .u8 1, .int .u8 c, .int .u8 0, .int .u8 o]) ∧ Kp [] w w') := Lib.hid fun w => a_entry c hc w
  have HS : Hid (∀ b, foundS T G n o c (H, R) (b + 1) = if isE c o ((foundS T G n o c (H, R) b).1.getD (3 + T + G + b) 0) then lookS T G n o c b (foundS T G n o c (H, R) b) (Cl.clC c).toNat else foundS T G n o c (H, R) b) := Lib.hid fun b => rfl
  have HB : Hid (∀ w', Kp [] (mkW w T G n p q o wk hd) w' → ∃ vs', Mw T G n p r q vs' (foundS T G n o c (H, R) 0).1 (foundS T G n o c (H, R) 0).2 (t + 33 * 0) w' ∧ Mk p r q vs vs' w w' ∧ w'.heap[w.heap.size]? = some (.cells (mkC T G n p q o wk hd) 46 (0, 0))) :=
    Lib.hid fun w' k => ⟨vs, h.on ((mkW_kp w T G n p q o wk hd).trans k), Mk.of_kp ((mkW_kp w T G n p q o wk hd).trans k) (by simp), k.row (by simp) (mkW_row w T G n p q o wk hd)⟩
  have HTt := Lib.hid ht
  have HNn : Hid (n ≤ 64) := Lib.hid hf.2.2.2
  have HO := Lib.hid ho
  have HC := Lib.hid hc
  have HFin : Hid (∀ vs1 w1, Mw T G n p r q vs1 (foundS T G n o c (H, R) n).1 (foundS T G n o c (H, R) n).2 (t + 33 * n) w1 → Mk p r q vs vs1 w w1 → Calls Tryd.prog 33 #[mkV T G n p q o wk hd, .int .i64 c] w1 fun e w' => e = .returned (.tuple #[.int .i64 (((foundP T G n o c (H, R)).2).getD 0), .bool (foundP T G n o c (H, R)).2.isSome]) ∧ ∃ vs', Mw T G n p r q vs' (foundP T G n o c (H, R)).1.1 (foundP T G n o c (H, R)).1.2 (t + 33 * n) w' ∧ Mk p r q vs vs' w w') := by
    refine Lib.hid fun vs1 w1 hm hk => (a_listed (o := o) (wk := wk) (hd := hd) hm c hc).mono ?_
    rintro e w' ⟨rfl, vs2, h2, h3⟩
    exact ⟨rfl, vs2, h2, hk.trans h3⟩
  unfold mkW at HB
  generalize foundP T G n o c (H, R) = fin at HFin ⊢
  clear h hf ht ho hc
  go_enter Tryd.func34, Tryd.ntmps34
  have HB0 := HB
  unfold mkC at HB0
  go_wp2_with fail
  refine (hB.out _).mono ?_
  rintro e w1 ⟨rfl, hk1⟩
  have HB1 := Lib.hid (HB0.out w1 hk1)
  clear hk1 HB HB0
  go_wp2_with fail
  go_loopg [10] n (fun gg v10 wr => ∃ i : Nat, i + gg = n ∧ v10 = .int .i64 i ∧ Hid (∃ vs', Mw T G n p r q vs' (foundS T G n o c (H, R) i).1 (foundS T G n o c (H, R) i).2 (t + 33 * i) wr ∧ Mk p r q vs vs' w wr ∧ wr.heap[w.heap.size]? = some (.cells (mkC T G n p q o wk hd) 46 (0, 0))))
  case atStart => exact ⟨0, by omega, rfl, HB1⟩
  case round =>
    obtain ⟨i, hi, rfl, HR⟩ := hrel
    by_cases hlt2 : i < n
    · have hn64 := HNn.out
      obtain ⟨vs1, hM, hK, hrow⟩ := HR.out
      have hS1 := HS.out i
      generalize foundS T G n o c (H, R) i = s at hM hS1
      obtain ⟨x, hx⟩ : ∃ x, s.1.getD (3 + T + G + i) 0 = x := ⟨_, rfl⟩
      rw [hx] at hS1
      obtain ⟨u, hu⟩ : ∃ u, isE c o x = u := ⟨_, rfl⟩
      have hEq : ∀ w, (binOp .eql 84 (.agg #[.int .u8 (ek x), .int .u8 (ec x), .int .u8 (er x), .int .u8 (eo x)]) (.agg #[.int .u8 1, .int .u8 c, .int .u8 0, .int .u8 o])).run Tryd.prog w = .ok (.bool u) w := fun w => by rw [← hu]; exact Tb.eqT _ _ _ _ _ _ _ _ w
      have HM := Lib.hid hM
      have HK := Lib.hid hK
      have HRow := Lib.hid hrow
      have HRd : Hid (∀ w', Kp [] wr w' → Calls Tryd.prog 44 #[.iface 27 (.pointer (some ⟨p, 0, none⟩)), .agg #[.int .i64 T, .int .i64 G, .int .i64 n], .int .i64 i] w' fun e w2 => e = .returned (.agg #[.int .u8 (ek x), .int .u8 (ec x), .int .u8 (er x), .int .u8 (eo x)]) ∧ Mw T G n p r q vs1 s.1 s.2 (t + 33 * i + 1) w2 ∧ Kp [p, r] wr w2) := by
        refine Lib.hid fun w' k => ?_
        have h2 := HM.out.on k
        obtain ⟨t0, ht0, hh⟩ := h2.hw
        refine (g_entry hh (by have := HTt.out; have := HNn.out; omega) i hlt2 x hx).mono ?_
        rintro e w2 ⟨rfl, h3, h4⟩
        exact ⟨rfl, h2.turn h4 ⟨t0 + 1, by omega, h3⟩ rfl, (k.mono (by simp)).trans h4⟩
      have hap := hM.apart hrow (by decide) (by decide) (by decide) (by decide)
      have HNe : Hid (w.heap.size ≠ p ∧ w.heap.size ≠ r) := Lib.hid ⟨hap.1, hap.2.1⟩
      have HS0 := ms_of hrow (Kp.refl [p, r] wr)
      obtain ⟨r0, r1, r2, r3, r4, r5, r6, r7, -⟩ := HS0
      have HS0 := Lib.hid (ms_of hrow (Kp.refl [p, r] wr))
      clear hM hK hrow hx hap
      generalize ek x = xk at hEq HRd
      generalize ec x = xc at hEq HRd
      generalize er x = xr at hEq HRd
      generalize eo x = xo at hEq HRd
      go_wp2_with fail
      go_region_held3? (fun wx => wx.cell? ⟨w.heap.size, 0, none⟩ = some (.iface 27 (.pointer (some ⟨p, 0, none⟩))) ∧ wx.cell? ⟨w.heap.size, 1, none⟩ = some (.int .i64 T) ∧ wx.cell? ⟨w.heap.size, 2, none⟩ = some (.int .i64 G) ∧ wx.cell? ⟨w.heap.size, 3, none⟩ = some (.int .i64 n) ∧ wx.cell? ⟨w.heap.size, 4, none⟩ = some (.int .u8 o) ∧ wx.cell? ⟨w.heap.size, 5, none⟩ = some (.pointer (some ⟨q, 0, none⟩)) ∧ wx.cell? ⟨w.heap.size, 6, none⟩ = some (.bool wk) ∧ wx.cell? ⟨w.heap.size, 7, none⟩ = some hd ∧ Kp [p, r] wr wx)
        (first
          | assumption
          | exact ms_keep HS0.out ((Kp.refl [] _).drew) (by simp) (fun k => k.trans ((Kp.refl [p, r] _).drew))
          | exact ms_keep ‹Ms w.heap.size T G n p q o wk hd (Kp [p, r] wr) _› hk8 (by have := HNe.out; simp; omega) (fun k => k.trans hk8)
          | exact ms_keep ‹Ms w.heap.size T G n p q o wk hd (Kp [p, r] wr) _› hk9 (by simp) (fun k => k.trans (hk9.mono (by simp))))
        (first
        | (go_at_call 44
           refine (HRd.out _ ?_).mono ?_
           · exact ⟨rfl, rfl, rfl, Nat.le_refl _, fun _ _ _ => rfl⟩
           rintro e w4 ⟨rfl, hg, hk8⟩
           have G4 := Lib.hid hg
           have K4 : Hid (Kp [p, r] wr w4) := Lib.hid hk8
           clear hg)
        | (go_at_call 45; refine (HE.out _).mono ?_; rintro e w5 ⟨rfl, hk9⟩
           have K5 : Hid (Kp [p, r] wr w5 ∧ Mw T G n p r q vs1 s.1 s.2 (t + 33 * i + 1) w5) := Lib.hid (by
             have kk : Kp [] w4 w5 := by refine Kp.trans ?_ hk9; exact ⟨rfl, rfl, rfl, Nat.le_refl _, fun _ _ _ => rfl⟩
             exact ⟨K4.out.trans (kk.mono (by simp)), G4.out.on kk⟩)))
      all_goals
        rename_i hHeld
        obtain ⟨r0, r1, r2, r3, r4, r5, r6, r7, -⟩ := hHeld
        have hrow5 := K5.out.1.row (by have := HNe.out; simp; omega) HRow.out
        have F5 := Lib.hid (And.intro K5.out.2 (And.intro (HK.out.trans (Mk.of_kp (q := q) K5.out.1 (by simp))) hrow5))
        have HLk := Lib.hid (a_look (o := o) (wk := wk) (hd := hd) K5.out.2 (by have := HTt.out; have := HNn.out; omega) HO.out i c hlt2 HC.out)
        clear hrow5 K4 K5 G4 hk9 hk8 HS0
        cases u
        · have HEE := Lib.hid (hS1.trans (if_neg (by rw [hu]; simp)))
          clear hS1
          go_wp2_with fail
          go_roundg (n - (i + 1))
          case rel => exact ⟨i + 1, by omega, by go_num, Lib.hid ⟨vs1, by rw [HEE.out]; exact F5.out.1.more (by omega), F5.out.2⟩⟩
          case measure => omega
        · have HEE := Lib.hid (hS1.trans (if_pos hu))
          clear hS1
          go_wp2_with fail
          refine HLk.out.mono ?_
          rintro e w6 ⟨rfl, vs2, h6, hk6⟩
          have F6 : Hid (∃ vs', Mw T G n p r q vs' (foundS T G n o c (H, R) (i + 1)).1 (foundS T G n o c (H, R) (i + 1)).2 (t + 33 * (i + 1)) w6 ∧ Mk p r q vs vs' w w6 ∧ w6.heap[w.heap.size]? = some (.cells (mkC T G n p q o wk hd) 46 (0, 0))) := by
            refine Lib.hid ⟨vs2, by rw [HEE.out]; exact h6.more (by omega), F5.out.2.1.trans hk6, F5.out.1.row hk6 F5.out.2.2 (by decide) (by decide) (by decide) (by decide)⟩
          clear h6 hk6 r0 r1 r2 r3 r4 r5 r6 r7
          go_wp2_with fail
          go_roundg (n - (i + 1))
          case rel => exact ⟨i + 1, by omega, by go_num, F6⟩
          case measure => omega
    · obtain rfl : i = n := by omega
      obtain ⟨vs1, hM, hK, hrow⟩ := HR.out
      have HL := Lib.hid (HFin.out vs1 wr hM hK)
      have HS0 := ms_of (F := fun _ => True) hrow trivial
      obtain ⟨r0, r1, r2, r3, r4, r5, r6, r7, -⟩ := HS0
      clear hM hK hrow HFin
      go_wp2_with fail
      refine HL.out.mono ?_
      rintro e w2 ⟨rfl, h2⟩
      have H2 := Lib.hid h2
      clear h2
      go_wp2_with fail
      go_ret2
      exact ⟨rfl, H2.out⟩

theorem ent_may (c o : Nat) (hc : c < 4) (ho : o < 64) : Tb.mayE 1 c 0 o = true := by
  rw [Tb.mayE_iff]; omega

set_option maxHeartbeats 16000000 in
theorem a_carved (h : Mw T G n p r q vs H R t w) (ht : t ≤ 500000) (ho : o < 64) (c : Nat) (hc : c < 4) :
    Calls Tryd.prog 35 #[mkV T G n p q o wk hd, .int .i64 c] w fun e w' => e = .returned (.tuple #[.int .i64 (((carveS T G n o wk c (H, R)).2).getD 0), .bool (carveS T G n o wk c (H, R)).2.isSome]) ∧ ∃ vs', Mw T G n p r q vs' (carveS T G n o wk c (H, R)).1.1 (carveS T G n o wk c (H, R)).1.2 (t + 5 * n + 20) w' ∧ Mk p r q vs vs' w w' := by
  have hf := h.fit
  have hlt := h.lt
  have hm : (Cl.clC c).toNat ≤ 16 := by rcases Li.four hc with rfl | rfl | rfl | rfl <;> decide
  have hcl : Cl.clC c = ((Cl.clC c).toNat : Nat) := by rcases Li.four hc with rfl | rfl | rfl | rfl <;> decide
  have HMm := Lib.hid hm
  have HTi : Hid (Calls Tryd.prog 38 #[mkV T G n p q o wk hd] (mkW w T G n p q o wk hd) fun e w' => e = .returned (.tuple #[]) ∧ Mw T G n p r q vs (tidyH T G n o wk H) R (t + 5 * n) w' ∧ Kp [p, r] w w' ∧ w'.heap[w.heap.size]? = some (.cells (mkC T G n p q o wk hd) 46 (0, 0))) := by
    refine Lib.hid ((a_tidy (o := o) (wk := wk) (hd := hd) (h.on (mkW_kp w T G n p q o wk hd)) (by omega)).mono ?_)
    rintro e w' ⟨rfl, h1, h2⟩
    exact ⟨rfl, h1, ((mkW_kp w T G n p q o wk hd).mono (by simp)).trans h2, h2.row (by simp; omega) (mkW_row w T G n p q o wk hd)⟩
  have HC : Hid (∀ w1, Mw T G n p r q vs (tidyH T G n o wk H) R (t + 5 * n) w1 → Calls Tryd.prog 37 #[mkV T G n p q o wk hd, .int .i64 1] w1 fun e w' => e = .returned (.tuple #[.int .i64 (((claimH n (tidyH T G n o wk H) 1).2.getD 0 : Nat)), .bool (claimH n (tidyH T G n o wk H) 1).2.isSome]) ∧ Mw T G n p r q vs (claimH n (tidyH T G n o wk H) 1).1 R (t + 5 * n + 1) w' ∧ Kp [p, r] w1 w') :=
    Lib.hid fun w1 h1 => a_claim h1 (by omega) 1 (by omega)
  have HW : Hid (∀ b, (claimH n (tidyH T G n o wk H) 1).2 = some b → b < n) := by
    refine Lib.hid fun b hb => ?_
    unfold claimH at hb
    split at hb
    · simp at hb
    · simp only at hb
      split at hb
      · simp only [Option.some.injEq] at hb; omega
      · simp at hb
  have HLen : Hid ((claimH n (tidyH T G n o wk H) 1).1.length = H.length) := Lib.hid (by rw [claimH_len, tidyH_len])
  have HCar : Hid (carveS T G n o wk c (H, R) = match (claimH n (tidyH T G n o wk H) 1).2 with | none => (((claimH n (tidyH T G n o wk H) 1).1, R), none) | some b => popS (cutS T G n o c ((claimH n (tidyH T G n o wk H) 1).1, R) b) c) := Lib.hid rfl
  have HCl : Hid (∀ w (tb : Cl.Tab w), Calls Tryd.prog 47 #[.int .i64 c] w fun e w' => e = .returned (.int .i64 ((Cl.clC c).toNat : Nat)) ∧ w = w') := by
    refine Lib.hid fun w tb => ?_
    rw [← hcl]
    exact Cl.cells_is w tb c _ rfl
  have HF := Lib.hid hf
  have HTt := Lib.hid ht
  have HO := Lib.hid ho
  have HCc := Lib.hid hc
  have HNe : Hid (w.heap.size ≠ p ∧ w.heap.size ≠ r ∧ w.heap.size ≠ q) := Lib.hid (by omega)
  generalize (claimH n (tidyH T G n o wk H) 1).1 = Hc at HC HLen HCar
  generalize (claimH n (tidyH T G n o wk H) 1).2 = res at HC HW HCar
  generalize carveS T G n o wk c (H, R) = fin at HCar ⊢
  generalize tidyH T G n o wk H = H1 at HTi HC
  unfold mkW at HTi
  clear h hf ht ho hc hm hcl hlt
  go_enter Tryd.func35, Tryd.ntmps35
  have HTi0 := HTi
  unfold mkC at HTi0
  go_wp2_with fail
  refine HTi0.out.mono ?_
  rintro e w1 ⟨rfl, h1, hk1, hrow1⟩
  have HC1 := Lib.hid (HC.out w1 h1)
  obtain ⟨r0, r1, r2, r3, r4, r5, r6, r7, -⟩ := ms_of (F := fun _ => True) (show w1.heap[w.heap.size]? = some (.cells (mkC T G n p q o wk hd) 46 (0, 0)) from hrow1) trivial
  have F1 := Lib.hid (And.intro hk1 (show w1.heap[w.heap.size]? = some (.cells (mkC T G n p q o wk hd) 46 (0, 0)) from hrow1))
  clear h1 hk1 hrow1 HTi HTi0 HC
  go_wp2_with fail
  refine HC1.out.mono ?_
  rintro e w2 ⟨rfl, h2, hk2⟩
  have F2 := Lib.hid (And.intro h2 (And.intro (F1.out.1.trans hk2) (hk2.row (by have := HNe.out; simp; omega) F1.out.2)))
  clear h2 hk2 r0 r1 r2 r3 r4 r5 r6 r7
  cases res with
  | none =>
    have hfin : fin = ((Hc, R), none) := HCar.out
    have F3 : Hid (∃ vs', Mw T G n p r q vs' fin.1.1 fin.1.2 (t + 5 * n + 20) w2 ∧ Mk p r q vs vs' w w2) := Lib.hid (by rw [hfin]; exact ⟨vs, F2.out.1.more (by omega), Mk.of_kp F2.out.2.1 (by simp)⟩)
    have F4 : Hid (((fin.2).getD 0 = 0) ∧ fin.2.isSome = false) := Lib.hid (by rw [hfin]; exact ⟨rfl, rfl⟩)
    clear hfin HCar HW HC1
    go_wp2_with fail
    go_ret2
    exact ⟨by rw [F4.out.1, F4.out.2]; rfl, F3.out⟩
  | some b =>
    have hb := HW.out b rfl
    have HCar2 : Hid (fin = popS (cutS T G n o c (Hc, R) b) c) := HCar
    clear HCar HW HC1
    obtain ⟨m, hmm⟩ : ∃ m, m = (Cl.clC c).toNat := ⟨_, rfl⟩
    have HCl2 := Lib.hid (HCl.out w2 F2.out.1.tab)
    have hm16 := HMm.out
    rw [← hmm] at HCl2 hm16
    have HMM := Lib.hid hmm
    have HBn := Lib.hid hb
    have HPl : Hid (∀ (i : Nat) (w' : World), i < m → Cl.Tab w' → Calls Tryd.prog 49 #[mkV T G n p q o wk hd, .int .i64 b, .int .i64 c, .int .i64 i] w' fun e w2 => e = .returned (.int .i64 (pl T G n c b i)) ∧ Kp [] w' w2) := Lib.hid fun i w' hi tb => a_place HF.out.2.1 HF.out.2.2.1 HF.out.2.2.2 tb c b i HCc.out HBn.out (by rw [← HMM.out]; exact hi)
    have HPf : Hid (∀ i, i < m → 1 ≤ pl T G n c b i ∧ (pl T G n c b i : Int) + Cl.wdC c ≤ H.length ∧ pl T G n c b i < H.length) := Lib.hid fun i hi => pl_fit (T := T) (G := G) HCc.out HBn.out (by rw [← HMM.out]; exact hi) HF.out.1
    clear hmm hb HCl HMm
    go_wp2_with fail
    refine HCl2.out.mono ?_
    rintro e w3 ⟨rfl, rfl⟩
    clear HCl2
    go_wp2_with fail
    go_loopg [23] m (fun gg v23 wr => ∃ i : Nat, i + gg = m ∧ v23 = .int .i64 i ∧ Hid (Mw T G n p r q vs (markS T G n o c b Hc i) R (t + 5 * n + 1 + i) wr ∧ Kp [p, r] w wr ∧ wr.heap[w.heap.size]? = some (.cells (mkC T G n p q o wk hd) 46 (0, 0))))
    case atStart => exact ⟨0, by omega, rfl, Lib.hid ⟨F2.out.1, F2.out.2.1, F2.out.2.2⟩⟩
    case round =>
      obtain ⟨i, hi, rfl, HR⟩ := hrel
      obtain ⟨r0, r1, r2, r3, r4, r5, r6, r7, -⟩ := ms_of (F := fun _ => True) HR.out.2.2 trivial
      by_cases hlt2 : i < m
      · have HPi := Lib.hid (fun w' => HPl.out i w' hlt2)
        have hpf := HPf.out i hlt2
        have HWl : Hid (∀ w', Kp [] wr w' → Calls Tryd.prog 48 #[mkV T G n p q o wk hd, .int .i64 (pl T G n c b i)] w' fun e w2 => e = .returned (.tuple #[]) ∧ Mw T G n p r q vs (markS T G n o c b Hc (i + 1)) R (t + 5 * n + 1 + (i + 1)) w2 ∧ Kp [p, r] w' w2) := by
          refine Lib.hid fun w' k => (a_writeListed (o := o) (wk := wk) (hd := hd) (HR.out.1.on k) (by have := HTt.out; have := HF.out.2.2.2; omega) HO.out _ (by rw [markS_len, HLen.out]; exact hpf.2.2) _ rfl).mono ?_
          rintro e w2 ⟨rfl, h1, h2⟩
          exact ⟨rfl, h1, h2⟩
        have HT1 := Lib.hid HR.out.1.tab
        have HS0 := Lib.hid (ms_of HR.out.2.2 (Kp.refl [p, r] wr))
        clear hpf
        generalize pl T G n c b i = P at HPi HWl
        go_wp2_with fail
        go_region_held3 (fun wx => wx.cell? ⟨w.heap.size, 0, none⟩ = some (.iface 27 (.pointer (some ⟨p, 0, none⟩))) ∧ wx.cell? ⟨w.heap.size, 1, none⟩ = some (.int .i64 T) ∧ wx.cell? ⟨w.heap.size, 2, none⟩ = some (.int .i64 G) ∧ wx.cell? ⟨w.heap.size, 3, none⟩ = some (.int .i64 n) ∧ wx.cell? ⟨w.heap.size, 4, none⟩ = some (.int .u8 o) ∧ wx.cell? ⟨w.heap.size, 5, none⟩ = some (.pointer (some ⟨q, 0, none⟩)) ∧ wx.cell? ⟨w.heap.size, 6, none⟩ = some (.bool wk) ∧ wx.cell? ⟨w.heap.size, 7, none⟩ = some hd ∧ Kp [p, r] wr wx)
          (first
            | assumption
            | exact ms_keep HS0.out ((Kp.refl [] _).drew) (by simp) (fun k => k.trans ((Kp.refl [p, r] _).drew))
            | exact ms_keep ‹Ms w.heap.size T G n p q o wk hd (Kp [p, r] wr) _› hk8 (by have := HNe.out; simp; omega) (fun k => k.trans hk8)
            | exact ms_keep ‹Ms w.heap.size T G n p q o wk hd (Kp [p, r] wr) _› hk9 (by simp) (fun k => k.trans (hk9.mono (by simp))))
          (first
          | (go_at_call 49
             refine (HPi.out _ ?_).mono ?_
             · exact tab_keep HT1.out (S := []) ⟨rfl, rfl, rfl, Nat.le_refl _, fun _ _ _ => rfl⟩ (by simp)
             rintro e w4 ⟨rfl, hk9⟩
             have K4 : Hid (Kp [] wr w4) := Lib.hid (by refine Kp.trans ?_ hk9; exact ⟨rfl, rfl, rfl, Nat.le_refl _, fun _ _ _ => rfl⟩))
          | (go_at_call 48
             refine (HWl.out _ ?_).mono ?_
             · exact K4.out.trans ⟨rfl, rfl, rfl, Nat.le_refl _, fun _ _ _ => rfl⟩
             rintro e w5 ⟨rfl, hg, hk8⟩
             have G5 : Hid (_ ∧ Kp [p, r] wr w5) := Lib.hid (And.intro hg ((K4.out.mono (by simp)).trans (by refine Kp.trans ?_ hk8; exact ⟨rfl, rfl, rfl, Nat.le_refl _, fun _ _ _ => rfl⟩)))
             clear hg))
        all_goals
          rename_i hHeld
          clear hHeld
          go_wp2_with fail
          go_roundg (m - (i + 1))
          case rel => exact ⟨i + 1, by omega, by go_num, Lib.hid ⟨G5.out.1, HR.out.2.1.trans G5.out.2, G5.out.2.row (by have := HNe.out; simp; omega) HR.out.2.2⟩⟩
          case measure => omega
      · obtain rfl : i = m := by omega
        have hM5 := HR.out.1
        have HLm : Hid ((markS T G n o c b Hc i).length = H.length) := Lib.hid (by rw [markS_len, HLen.out])
        have HCut : Hid (cutS T G n o c (Hc, R) b = ((markS T G n o c b Hc i).set (3 + T + G + b) (Tb.wordE 1 c 0 o), pushS T G n c b i R i)) := Lib.hid (by unfold cutS; rw [← HMM.out])
        generalize markS T G n o c b Hc i = Hm at hM5 HLm HCut
        have HSet : Hid (∀ w', Kp [] wr w' → Calls Tryd.prog 29 #[.iface 27 (.pointer (some ⟨p, 0, none⟩)), .agg #[.int .i64 T, .int .i64 G, .int .i64 n], .int .i64 b, .agg #[.int .u8 1, .int .u8 c, .int .u8 0, .int .u8 o]] w' fun e w2 => e = .returned (.tuple #[]) ∧ Mw T G n p r q vs (Hm.set (3 + T + G + b) (Tb.wordE 1 c 0 o)) R (t + 5 * n + 20) w2 ∧ Kp [p, r] w' w2) := by
          refine Lib.hid fun w' k => ?_
          have h2 := hM5.on k
          obtain ⟨t0, ht0, hh⟩ := h2.hw
          refine (g_set_in hh (by have := HTt.out; have := HF.out.2.2.2; omega) b HBn.out 1 c 0 o (by decide) (by omega) (by decide) (by omega) (ent_may c o HCc.out HO.out)).mono ?_
          rintro e w2 ⟨rfl, h3, h4⟩
          exact ⟨rfl, h2.turn h4 ⟨t0 + 1, by omega, h3⟩ (by simp), h4⟩
        have HE : Hid (∀ w, Calls Tryd.prog 45 #[mkV T G n p q o wk hd, .int .i64 c] w fun e w' => e = .returned (.agg #[.int .u8 1, .int .u8 c, .int .u8 0, .int .u8 o]) ∧ Kp [] w w') := Lib.hid fun w => a_entry c HCc.out w
        have HS0 := Lib.hid (ms_of HR.out.2.2 (Kp.refl [p, r] wr))
        have HK5 := Lib.hid HR.out.2
        generalize Hm.set (3 + T + G + b) (Tb.wordE 1 c 0 o) = H5 at HSet HCut
        clear hM5 HR
        go_wp2_with fail
        go_region_held3 (fun wx => wx.cell? ⟨w.heap.size, 0, none⟩ = some (.iface 27 (.pointer (some ⟨p, 0, none⟩))) ∧ wx.cell? ⟨w.heap.size, 1, none⟩ = some (.int .i64 T) ∧ wx.cell? ⟨w.heap.size, 2, none⟩ = some (.int .i64 G) ∧ wx.cell? ⟨w.heap.size, 3, none⟩ = some (.int .i64 n) ∧ wx.cell? ⟨w.heap.size, 4, none⟩ = some (.int .u8 o) ∧ wx.cell? ⟨w.heap.size, 5, none⟩ = some (.pointer (some ⟨q, 0, none⟩)) ∧ wx.cell? ⟨w.heap.size, 6, none⟩ = some (.bool wk) ∧ wx.cell? ⟨w.heap.size, 7, none⟩ = some hd ∧ Kp [p, r] wr wx)
          (first
            | assumption
            | exact ms_keep HS0.out ((Kp.refl [] _).drew) (by simp) (fun k => k.trans ((Kp.refl [p, r] _).drew))
            | exact ms_keep ‹Ms w.heap.size T G n p q o wk hd (Kp [p, r] wr) _› hk8 (by have := HNe.out; simp; omega) (fun k => k.trans hk8)
            | exact ms_keep ‹Ms w.heap.size T G n p q o wk hd (Kp [p, r] wr) _› hk9 (by simp) (fun k => k.trans (hk9.mono (by simp))))
          (first
          | (go_at_call 45
             refine (HE.out _).mono ?_
             rintro e w4 ⟨rfl, hk9⟩
             have K4 : Hid (Kp [] wr w4) := Lib.hid (by refine Kp.trans ?_ hk9; exact ⟨rfl, rfl, rfl, Nat.le_refl _, fun _ _ _ => rfl⟩))
          | (go_at_call 29
             refine (HSet.out _ ?_).mono ?_
             · exact K4.out.trans ⟨rfl, rfl, rfl, Nat.le_refl _, fun _ _ _ => rfl⟩
             rintro e w5 ⟨rfl, hg, hk8⟩
             have G5 : Hid (_ ∧ Kp [p, r] wr w5) := Lib.hid (And.intro hg ((K4.out.mono (by simp)).trans (by refine Kp.trans ?_ hk8; exact ⟨rfl, rfl, rfl, Nat.le_refl _, fun _ _ _ => rfl⟩)))
             clear hg))
        all_goals
          rename_i hHeld
          clear hHeld
          have HB5 : Hid (∃ vs', Mw T G n p r q vs' H5 (pushS T G n c b i R 0) (t + 5 * n + 20) w5 ∧ Mk p r q vs vs' w w5 ∧ w5.heap[w.heap.size]? = some (.cells (mkC T G n p q o wk hd) 46 (0, 0))) :=
            Lib.hid ⟨vs, G5.out.1, Mk.of_kp (HK5.out.1.trans G5.out.2) (by simp), G5.out.2.row (by have := HNe.out; simp; omega) HK5.out.2⟩
          clear G5 K4 hk8 hk9 HS0 HK5 HSet HE
          go_wp2_with fail
          go_loopg [44] i (fun gg v44 wr => ∃ j : Nat, j + gg = i ∧ v44 = .int .i64 j ∧ Hid (∃ vs', Mw T G n p r q vs' H5 (pushS T G n c b i R j) (t + 5 * n + 20) wr ∧ Mk p r q vs vs' w wr ∧ wr.heap[w.heap.size]? = some (.cells (mkC T G n p q o wk hd) 46 (0, 0))))
          case atStart => exact ⟨0, by omega, rfl, HB5⟩
          case round =>
            obtain ⟨j, hj, rfl, HR⟩ := hrel
            obtain ⟨vs1, hM, hK, hrow⟩ := HR.out
            obtain ⟨r0, r1, r2, r3, r4, r5, r6, r7, -⟩ := ms_of (F := fun _ => True) hrow trivial
            by_cases hlt3 : j < i
            · have hap := hM.apart hrow (by decide) (by decide) (by decide) (by decide)
              have HAp := Lib.hid hap
              have HM := Lib.hid hM
              have HK := Lib.hid hK
              have HRow := Lib.hid hrow
              obtain ⟨k, hk⟩ : ∃ k, k = i - 1 - j := ⟨_, rfl⟩
              have e1 := IntWalk.i64_in ((i : Int) - 1) (by omega)
              have e3 : (i : Int) - 1 - j = (k : Int) := by omega
              have e5 := IntWalk.i64_in (k : Int) (by omega)
              have HPk := Lib.hid (fun w' => HPl.out k w' (by omega))
              have hpf := HPf.out k (by omega)
              have HPu : Hid (∀ w', Kp [] wr w' → Calls Tryd.prog 50 #[.pointer (some ⟨q, 0, none⟩), .int .i64 c, .int .i64 (pl T G n c b k)] w' fun e w2 => (∃ z, e = .returned (.int .i64 z)) ∧ ∃ vs2, Mw T G n p r q vs2 H5 (pushS T G n c b i R (j + 1)) (t + 5 * n + 20) w2 ∧ Mk p r q vs1 vs2 w' w2) := by
                refine Lib.hid fun w' k' => ?_
                have h2 := HM.out.on k'
                have hlen : H5.length = H.length := by
                  have := congrArg (fun z => z.1.length) HCut.out
                  simp only [cutS] at this
                  rw [← this]
                  simp [markS_len, HLen.out]
                have hS : pushS T G n c b i R (j + 1) = Li.pushR (pushS T G n c b i R j) c (pl T G n c b k) := by rw [hk]; rfl
                rw [hS]
                refine (Li.push_is w' q vs1 _ c (pl T G n c b k) h2.ls (h2.lk.len h2.sm)).mono ?_
                rintro e w2 ⟨rfl, vs2, L, K⟩
                exact ⟨⟨_, rfl⟩, vs2, h2.list L K (h2.lk.push HCc.out (by omega) (by rw [hlen]; exact hpf.2.1)), Mk.of_lk K⟩
              have HT1 := Lib.hid hM.tab
              have HS0 := Lib.hid (ms_of (F := fun wx => ∃ vs', Mk p r q vs1 vs' wr wx) hrow ⟨vs1, Mk.refl _⟩)
              clear hpf hk hM hK hrow hap
              generalize pl T G n c b k = P at HPk HPu
              go_wp2_with fail
              go_region_held3? (fun wx => wx.cell? ⟨w.heap.size, 0, none⟩ = some (.iface 27 (.pointer (some ⟨p, 0, none⟩))) ∧ wx.cell? ⟨w.heap.size, 1, none⟩ = some (.int .i64 T) ∧ wx.cell? ⟨w.heap.size, 2, none⟩ = some (.int .i64 G) ∧ wx.cell? ⟨w.heap.size, 3, none⟩ = some (.int .i64 n) ∧ wx.cell? ⟨w.heap.size, 4, none⟩ = some (.int .u8 o) ∧ wx.cell? ⟨w.heap.size, 5, none⟩ = some (.pointer (some ⟨q, 0, none⟩)) ∧ wx.cell? ⟨w.heap.size, 6, none⟩ = some (.bool wk) ∧ wx.cell? ⟨w.heap.size, 7, none⟩ = some hd ∧ ∃ vs', Mk p r q vs1 vs' wr wx)
                (first
                  | assumption
                  | exact ms_keep HS0.out ((Kp.refl [] _).drew) (by simp) (fun ⟨v, k⟩ => ⟨v, k.trans (Mk.of_kp ((Kp.refl [] _).drew) (by simp))⟩)
                  | exact ms_keep ‹Ms w.heap.size T G n p q o wk hd (fun wx => ∃ vs', Mk p r q vs1 vs' wr wx) _› hk9 (by simp) (fun ⟨v, k⟩ => ⟨v, k.trans (Mk.of_kp hk9 (by simp))⟩)
                  | exact ms_mk ‹Ms w.heap.size T G n p q o wk hd (fun wx => ∃ vs', Mk p r q vs1 vs' wr wx) _› hk8 HAp.out.1 HAp.out.2.1 HAp.out.2.2.1 HAp.out.2.2.2 (fun _ => ⟨_, G5.out.2⟩))
                (first
                | (go_at_call 49
                   refine (HPk.out _ ?_).mono ?_
                   · exact tab_keep HT1.out (S := []) ⟨rfl, rfl, rfl, Nat.le_refl _, fun _ _ _ => rfl⟩ (by simp)
                   rintro e w6 ⟨rfl, hk9⟩
                   have K6 : Hid (Kp [] wr w6) := Lib.hid (by refine Kp.trans ?_ hk9; exact ⟨rfl, rfl, rfl, Nat.le_refl _, fun _ _ _ => rfl⟩))
                | (go_at_call 50
                   refine (HPu.out _ ?_).mono ?_
                   · exact K6.out.trans ⟨rfl, rfl, rfl, Nat.le_refl _, fun _ _ _ => rfl⟩
                   rintro e w7 ⟨⟨z, rfl⟩, vs2, hg, hk8⟩
                   have G5 : Hid (_ ∧ Mk p r q vs1 vs2 wr w7) := Lib.hid (And.intro hg ((Mk.of_kp K6.out (by simp)).trans ((Mk.of_kp (S := []) ⟨rfl, rfl, rfl, Nat.le_refl _, fun _ _ _ => rfl⟩ (by simp)).trans hk8)))
                   clear hg))
              all_goals
                rename_i hHeld
                clear hHeld
                go_wp2_with fail
                go_roundg (i - (j + 1))
                case rel => exact ⟨j + 1, by omega, by go_num, Lib.hid ⟨vs2, G5.out.1, HK.out.trans G5.out.2, HM.out.row G5.out.2 HRow.out (by decide) (by decide) (by decide) (by decide)⟩⟩
                case measure => omega
            · obtain rfl : j = i := by omega
              have HFin : Hid (Calls Tryd.prog 33 #[mkV T G n p q o wk hd, .int .i64 c] wr fun e w' => e = .returned (.tuple #[.int .i64 (fin.2.getD 0), .bool fin.2.isSome]) ∧ ∃ vs', Mw T G n p r q vs' fin.1.1 fin.1.2 (t + 5 * n + 20) w' ∧ Mk p r q vs vs' w w') := by
                have hfin := HCar2.out
                rw [HCut.out] at hfin
                rw [hfin]
                refine Lib.hid ((a_listed (o := o) (wk := wk) (hd := hd) hM c HCc.out).mono ?_)
                rintro e w' ⟨rfl, vs2, h2, h3⟩
                exact ⟨rfl, vs2, h2, hK.trans h3⟩
              clear hM hK hrow HCar2
              go_wp2_with fail
              refine HFin.out.mono ?_
              rintro e w8 ⟨rfl, h2⟩
              have H2 := Lib.hid h2
              clear h2
              go_wp2_with fail
              go_ret2
              exact ⟨rfl, H2.out⟩
end

end Go.Proofs.YtinkpbenmfnnhaaDoor
