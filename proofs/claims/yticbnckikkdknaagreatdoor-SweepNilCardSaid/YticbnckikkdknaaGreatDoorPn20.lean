/- The walks of the document's own heap (demesneref15), on: More. Conditions: as each theorem states them. -/
import Derived.Test.YticbnckikkdknaaGreatDoorPn11
namespace Go.Proofs.YticbnckikkdknaaGreatDoor
set_option linter.unusedVariables false
set_option linter.unusedSimpArgs false
set_option maxRecDepth 100000
open Go.RowKit
variable {Bz : Nat}

section
variable {w0 w w' : World} {T G n N db dc db' dc' o c : Nat} {us us' : Nat → Value} {H H' : List Int} {R R' : Nat → List Int} {wk : Bool}
theorem cls_of (hc : c < 4) : Cl.Cls c (Cl.wdC c) (Cl.clC c).toNat := by
  rcases Li.four hc with rfl | rfl | rfl | rfl
  · exact .inl ⟨rfl, by decide, by decide⟩
  · exact .inr (.inl ⟨rfl, by decide, by decide⟩)
  · exact .inr (.inr (.inl ⟨rfl, by decide, by decide⟩))
  · exact .inr (.inr (.inr ⟨rfl, by decide, by decide⟩))
/-- Where a class's cells begin. -/
structure StAt (gs m : Nat) (wd : Int) (cur : Array Value) (w : World) : Prop where
  row : w.heap[gs]? = some (.cells cur 3 (0, 0))
  ats : ∀ i, i < m → cur[i]? = some (.int .i64 (wd * (i : Int)))
theorem StAt.keep {gs m : Nat} {wd : Int} {cur : Array Value} {S : List Nat} (h : StAt gs m wd cur w) (k : Kp S w w') (hS : gs ∉ S) : StAt gs m wd cur w' := ⟨k.row hS h.row, h.ats⟩
theorem StAt.put {gs m b : Nat} {wd : Int} {cur : Array Value} {v0 v1 v2 v3 : Value} (h : StAt gs m wd cur w) {cs : Array Value} {U : TypeId} (hb : w.heap[b]? = some (.cells cs U (0, 0))) (hU : 3 ≠ U) : StAt gs m wd cur (put4v w b v0 v1 v2 v3) :=
  h.keep (put4v_kp _ _ _ _ _ _) (by rw [List.mem_singleton]; exact Gx.ne_types h.row hb hU)
theorem st_of {m : Nat} {wd : Int} {base : Nat} {v : Value} (hm : 0 < m) (h : w.ownsRow base 3 1 v m (Cl.lstC wd m)) : ∃ gs cs cur, v = .slice (some ⟨gs, 0, none⟩) m cs ∧ StAt gs m wd cur w := by
  rcases h.2 with ⟨_, h0⟩ | ⟨g, cp, cur, rfl, hge, hb, h1, h2, h3, h4⟩
  · omega
  · refine ⟨g, cp, cur, rfl, hb, fun i hi => ?_⟩
    have e : cur[i]? = (cur.toList.take (m * 1))[i]? := by rw [List.getElem?_take_of_lt (by omega)]; simp
    rw [e, h4, Cl.lst_get _ _ _ hi]
/-- What the drawn regions of More hold on to. -/
def H5 (a gs j T G n : Nat) (v : Int) (wr wx : World) : Prop := wx.cell? ⟨a, 1, none⟩ = some (.int .i64 T) ∧ wx.cell? ⟨a, 2, none⟩ = some (.int .i64 G) ∧ wx.cell? ⟨a, 3, none⟩ = some (.int .i64 n) ∧ wx.cell? ⟨gs, j, none⟩ = some (.int .i64 v) ∧ Kp [] wr wx
theorem H5.keep {a gs j T G n : Nat} {v : Int} {wr wx wy : World} (h : H5 a gs j T G n v wr wx) (k : Kp [] wx wy) : H5 a gs j T G n v wr wy :=
  ⟨kp_cell k (by simp) h.1, kp_cell k (by simp) h.2.1, kp_cell k (by simp) h.2.2.1, kp_cell k (by simp) h.2.2.2.1, h.2.2.2.2.trans k⟩
/-- What the document asks of an entry. -/
theorem isE_ask {x : Int} (h0 : 0 ≤ x) : isE c o x = true ↔ (ek x = 1 ∧ ec x = c ∧ eo x = o) := by
  unfold isE
  rw [Tb.eqE_iff]
  constructor
  · rintro ⟨h1, h2, h3, h4⟩; exact ⟨h1, h2, h4⟩
  · rintro ⟨h1, h2, h4⟩
    refine ⟨h1, h2, ?_, h4⟩
    unfold ek at h1
    unfold er
    split at h1
    · rename_i ht
      rw [if_pos ht]
      have := Tb.mayE_iff.1 (Tb.takeE_may ht)
      have hr : 0 ≤ x / 32 % 4 := by omega
      have := this.2.2.2.2.2.2.1 (by omega) (by omega)
      omega
    · omega
theorem rk_take (x : Int) (w : World) (h0 : 0 ≤ x) (h1 : x < 18446744073709551616) : ∃ (k a o r s e : Int) (g m : Bool), (e = 0 ∧ k = 0 ↔ frB x = true) ∧ Calls Tryz.prog 28 #[.int .u64 x] w fun e' w' => e' = .returned (.tuple #[.agg #[.int .u8 k, .int .u8 a, .bool g, .bool m, .int .u8 o, .int .u8 r, .int .u8 s], .int .i64 e]) ∧ Kp [] w w' := by
  cases ht : Wd.takeB x with
  | false =>
    refine ⟨0, 0, 0, 0, 0, 3, false, false, by simp [frB, ht], ?_⟩
    exact (Wd.rtake_none x w h0 h1 ht).mono fun e w' ⟨he, hb⟩ => ⟨he, kp_of_below hb⟩
  | true =>
    refine ⟨x % 4, x / 4 % 2, x / 32 % 64, x / 2048 % 128, x / 262144 % 128, 0, x / 8 % 2 == 1, x / 16 % 2 == 1, by simp [frB, ht], ?_⟩
    exact (Wd.rtake_some x w h0 ht).mono fun e w' ⟨he, hb⟩ => ⟨he, kp_of_below hb⟩
/-- What the last regions hold on to: the heap's box and the list's. -/
abbrev H58 (a b c N T G n : Nat) (A0 A1 A2 A3 : Option Addr) (l0 k0 l1 k1 l2 k2 l3 k3 : Nat) (wx : World) : Prop := wx.cell? ⟨a, 0, none⟩ = some (.slice (some ⟨b, 0, none⟩) N c) ∧ wx.cell? ⟨a, 1, none⟩ = some (.int .i64 T) ∧ wx.cell? ⟨a, 2, none⟩ = some (.int .i64 G) ∧ wx.cell? ⟨a, 3, none⟩ = some (.int .i64 n) ∧ wx.cell? ⟨a + 1, 0, none⟩ = some (.slice A0 l0 k0) ∧ wx.cell? ⟨a + 1, 1, none⟩ = some (.slice A1 l1 k1) ∧ wx.cell? ⟨a + 1, 2, none⟩ = some (.slice A2 l2 k2) ∧ wx.cell? ⟨a + 1, 3, none⟩ = some (.slice A3 l3 k3)
theorem H58.keep {a b c N T G n : Nat} {A0 A1 A2 A3 : Option Addr} {l0 k0 l1 k1 l2 k2 l3 k3 : Nat} {S : List Nat} {wx wy : World} (h : H58 a b c N T G n A0 A1 A2 A3 l0 k0 l1 k1 l2 k2 l3 k3 wx) (k : Kp S wx wy) (ha : a ∉ S) (hb : a + 1 ∉ S) : H58 a b c N T G n A0 A1 A2 A3 l0 k0 l1 k1 l2 k2 l3 k3 wy :=
  ⟨kp_cell k ha h.1, kp_cell k ha h.2.1, kp_cell k ha h.2.2.1, kp_cell k ha h.2.2.2.1, kp_cell k hb h.2.2.2.2.1, kp_cell k hb h.2.2.2.2.2.1, kp_cell k hb h.2.2.2.2.2.2.1, kp_cell k hb h.2.2.2.2.2.2.2⟩
theorem H58.of {w0 w : World} {vs : Nat → Value} {T G n N b c : Nat} {A0 A1 A2 A3 : Option Addr} {l0 k0 l1 k1 l2 k2 l3 k3 : Nat} {H : List Int} {R : Nat → List Int} (h : Mo Bz w0 vs T G n N b c (sl A0 A1 A2 A3 l0 k0 l1 k1 l2 k2 l3 k3) H R w) : H58 w0.heap.size b c N T G n A0 A1 A2 A3 l0 k0 l1 k1 l2 k2 l3 k3 w :=
  ⟨cell_of_row h.r5 0, cell_of_row h.r5 1, cell_of_row h.r5 2, cell_of_row h.r5 3, cell_of_row h.r6 0, cell_of_row h.r6 1, cell_of_row h.r6 2, cell_of_row h.r6 3⟩
/-- What is done where there is no such block. -/
def restS (T G n o c : Nat) (wk : Bool) (s : Hs) : Hs := match frst ((tidyH T G n o wk s.1).getD 0 0).toNat 1 with
  | none => (tidyH T G n o wk s.1, s.2)
  | some b => cutS T G n o c ((tidyH T G n o wk s.1).set 0 (Bm.setN ((tidyH T G n o wk s.1).getD 0 0).toNat b 1 false : Int), s.2) b
theorem moreS_eq (T G n o c : Nat) (wk : Bool) (s : Hs) : moreS T G n o c wk s = if (foundS T G n o c s n).2 c = [] then restS T G n o c wk (foundS T G n o c s n) else foundS T G n o c s n := rfl
end

section
variable {w : World} {T G n db dc o c : Nat} {us : Nat → Value} {H : List Int} {R : Nat → List Int} {wk : Bool}
set_option maxHeartbeats 60000000 in
theorem d_more (h : Dh Bz T G n db dc H w) (hr : Li.Rows4 w us R) (hlt : Li.Lt4 us w.heap.size) (hl : Lok H.length R) (hsm : H.length ≤ 1000) (hi : Ivn T G n H) (ho : o < 64) (hc : c < 4) :
    Calls Tryz.prog 100 #[hV db dc H.length T G n, .agg #[us 0, us 1, us 2, us 3], .int .u8 o, .int .i64 c, .bool wk] w fun e w' => ∃ db' dc' us', e = .returned (.tuple #[hV db' dc' H.length T G n, .agg #[us' 0, us' 1, us' 2, us' 3]]) ∧ Dh Bz T G n db' dc' (moreS T G n o c wk (H, R)).1 w' ∧ Li.Rows4 w' us' (moreS T G n o c wk (H, R)).2 ∧ Kp [] w w' ∧ Li.Bl4 us us' w.heap.size w'.heap.size := by
  have hn64 := h.hn
  have hT64 := h.hT
  have hG8 := h.hG
  have hcls := cls_of hc
  obtain ⟨m, hm⟩ : ∃ m, m = (Cl.clC c).toNat := ⟨_, rfl⟩
  obtain ⟨wd, hwd⟩ : ∃ wd, wd = Cl.wdC c := ⟨_, rfl⟩
  rw [← hm, ← hwd] at hcls
  have hm0 : 0 < m := by rcases hcls with ⟨_, _, rfl⟩ | ⟨_, _, rfl⟩ | ⟨_, _, rfl⟩ | ⟨_, _, rfl⟩ <;> decide
  have hm16 : m ≤ 16 := by rcases hcls with ⟨_, _, rfl⟩ | ⟨_, _, rfl⟩ | ⟨_, _, rfl⟩ | ⟨_, _, rfl⟩ <;> decide
  have HSt := Lib.hid (fun w => Cl.starts_in w c wd m hcls)
  have HWd := Lib.hid (fun w => (Wd.rword_any 1 0 o 0 0 false false w (by decide) (by decide) (by omega) (by decide) (by decide) (by decide) (by decide) (by omega) (by decide) (by decide)))
  have hrd := fun (x : Int) (h0 : 0 ≤ x) (h1 : x < 18446744073709551616) (w : World) => rk_take x w h0 h1
  have HTk := Lib.hid hrd
  clear hrd
  have HSr := Lib.hid (fun (i : Nat) (w : World) (hi : i < n) => Ly.rstart_is T G n i ((3 + T + G + n + 32 * i : Nat) : Int) w (by rw [Ly.rowP_in (by omega) (by omega)]; omega) (by omega) (by omega) (by omega) (by omega) (by omega) (by omega))
  have HB0 := Lib.hid (mo_new h hr hlt)
  have HPl : Hid (∀ i j, i < n → j < m → ((3 + T + G + n + 32 * i : Nat) : Int) + wd * (j : Int) = (pl T G n c i j : Int) ∧ pl T G n c i j < H.length ∧ 1 ≤ pl T G n c i j) := Lib.hid fun i j hi' hj => by
    have hf := pl_fit (T := T) (G := G) (N := H.length) hc hi' (i := j) (by rw [← hm]; exact hj) (by have := hi.len; omega)
    refine ⟨?_, hf.2.2, hf.1⟩
    unfold pl
    rw [← hwd]
    have : 0 ≤ wd := by rcases hcls with ⟨_, rfl, _⟩ | ⟨_, rfl, _⟩ | ⟨_, rfl, _⟩ | ⟨_, rfl, _⟩ <;> decide
    have e2 : ((wd.toNat * j : Nat) : Int) = wd * (j : Int) := by rw [Int.natCast_mul, Int.toNat_of_nonneg this]
    omega
  have hlw : 0 ≤ lw o ∧ lw o < 18446744073709551616 := by
    unfold lw Wd.wordI Wd.bitI
    simp only [if_false, Bool.false_eq_true]
    omega
  have HLw := Lib.hid hlw
  have HLk : Hid (∀ i, i ≤ n → Lok H.length (foundS T G n o c (H, R) i).2) := Lib.hid fun i hi' => foundS_ok (N := H.length) hc (by have := hi.len; omega) hl i hi'
  have HLk2 : Hid (∀ i j, i < n → j ≤ m → Lok H.length (lookS T G n o c i (foundS T G n o c (H, R) i) j).2) := Lib.hid fun i j hi' hj => lookS_ok (N := H.length) hc hi' (by have := hi.len; omega) (foundS_ok (N := H.length) hc (by have := hi.len; omega) hl i (by omega)) j (by rw [← hm]; exact hj)
  have HSm := Lib.hid hsm
  have HIv := Lib.hid hi
  have HF : Hid (∀ i x, (foundS T G n o c (H, R) i).1.getD (3 + T + G + i) 0 = x → foundS T G n o c (H, R) (i + 1) = if isE c o x then lookS T G n o c i (foundS T G n o c (H, R) i) m else foundS T G n o c (H, R) i) := Lib.hid fun i x hx => by
    rw [← hx, hm]; rfl
  have HLf : Hid (∀ i, (foundS T G n o c (H, R) i).1.length = H.length) := Lib.hid fun i => foundS_len i
  have HLl : Hid (∀ i s j, (lookS T G n o c i s j).1.length = s.1.length) := Lib.hid fun i s j => lookS_len j
  have hlw' : Wd.wordI 1 0 o 0 0 false false = lw o := rfl
  rw [hlw'] at HWd
  generalize hlxe : lw o = lx at HWd HLw hlw hlw'
  obtain ⟨N, hN⟩ : ∃ N, N = H.length := ⟨_, rfl⟩
  rw [← hN] at HB0 HPl HLk HLk2 HSm HLf hsm
  obtain ⟨W0, hW0⟩ : ∃ W0, W0 = mow w db dc N T G n us := ⟨_, rfl⟩
  rw [← hN]
  rw [← hW0] at HB0
  unfold mow zH zL at hW0
  have HW0 := Lib.hid hW0
  have HNn := Lib.hid hN
  have Hm := Lib.hid hm
  have Hwd := Lib.hid hwd
  clear hW0 hr hlt hl hlw hlw' hcls hN hm hwd hi
  go_enter Tryz.func100, Tryz.ntmps100
  go_upto_region 1 with (fail)
  rw [← HW0.out]
  clear HW0
  go_wp2_with fail
  refine (HWd.out W0).mono ?_
  rintro e w1 ⟨rfl, hb⟩
  have M1 := Lib.hid (HB0.out.on (kp_of_below hb))
  clear hb HB0
  go_wp2_with fail
  refine (HSt.out w1).mono ?_
  rintro e w2 ⟨v, rfl, hrow, hk⟩
  obtain ⟨gs, cs, cur, rfl, hst⟩ := st_of hm0 hrow
  have M2 := Lib.hid (And.intro (M1.out.on hk) hst)
  clear hrow hk hst M1 HSt HWd
  go_wp2_with fail
  go_loopg [14] n (fun gg v wr => ∃ i : Nat, i + gg = n ∧ v = .int .i64 i ∧ Hid (∃ db dc vs, Mo Bz w us T G n N db dc vs (foundS T G n o c (H, R) i).1 (foundS T G n o c (H, R) i).2 wr ∧ StAt gs m wd cur wr))
  case atStart => exact ⟨0, by omega, rfl, Lib.hid ⟨db, dc, us, M2.out⟩⟩
  case round =>
    obtain ⟨i, hi, rfl, HR⟩ := hrel
    obtain ⟨b1, c1, us1, hM, hS⟩ := HR.out
    have a0 := (cell_of_row hM.r5 0).trans (show _ = some (.slice (some ⟨b1, 0, none⟩) N c1) from rfl)
    have a1 := (cell_of_row hM.r5 1).trans (show _ = some (.int .i64 T) from rfl)
    have a2 := (cell_of_row hM.r5 2).trans (show _ = some (.int .i64 G) from rfl)
    have a3 := (cell_of_row hM.r5 3).trans (show _ = some (.int .i64 n) from rfl)
    have HM := Lib.hid (And.intro hM hS)
    by_cases hlt : i < n
    ·
      --{{
      obtain ⟨x, hx⟩ : ∃ x, (foundS T G n o c (H, R) i).1.getD (3 + T + G + i) 0 = x := ⟨_, rfl⟩
      have hx0 : 0 ≤ x := by rw [← hx]; exact (hM.dh.ok _).1
      have hnx := HF.out i x hx
      have hen := d_entry hM.dh i hlt x hx
      rw [hM.len] at hen
      have HEn := Lib.hid hen
      have hask := isE_ask (c := c) (o := o) hx0
      have hw1 := IntWalk.i64_in ((i : Int) + 1) (by omega)
      clear hM hS hen hx hx0
      obtain ⟨G1, hG1⟩ : ∃ G1, G1 + 1 = gk := ⟨gk - 1, by omega⟩
      have hgl1 : G1 + 1 ≤ gk := by omega
      have hi1 : i + (G1 + 1) = n := by omega
      clear hG1 hi
      have hcb : 0 ≤ ec x ∧ ec x < 4 := by unfold ec; split <;> omega
      generalize ek x = xk at HEn hask
      generalize ec x = xc at HEn hask hcb
      generalize er x = xr at HEn
      generalize eo x = xo at HEn hask
      go_wp2_with fail
      refine HEn.out.mono ?_
      rintro e w4 ⟨rfl, hk4⟩
      have kA : Kp [] w4 (w4.alloc (.cells (cs4 xk xc xr xo) 115)) := (Kp.refl _ _).alloc _
      have heb := heap_alloc_new w4 (.cells (cs4 xk xc xr xo) 115)
      have MA := Lib.hid (And.intro (HM.out.1.on (hk4.trans kA)) (HM.out.2.keep (hk4.trans kA) (by simp)))
      have t0 := (cell_of_row heb 0).trans (show _ = some (.int .u8 xk) from rfl)
      have t1 := (cell_of_row heb 1).trans (show _ = some (.int .u8 xc) from rfl)
      have t3 := (cell_of_row heb 3).trans (show _ = some (.int .u8 xo) from rfl)
      unfold cs4 at MA t0 t1 t3
      clear hk4 kA heb a0 a1 a2 a3 HM HEn HR
      by_cases hE : isE c o x = true
      · obtain ⟨rfl, rfl, rfl⟩ := hask.1 hE
        rw [hE, if_pos rfl] at hnx
        have HNx := Lib.hid hnx
        clear hnx hask hE
        have hlt0 : ∀ j, j < m → _ := fun j hj => HPl.out i j hlt hj
        have HPi := Lib.hid hlt0
        clear hlt0
        have HRi : Hid (∃ db dc vs, Mo Bz w us T G n N db dc vs (lookS T G n o c i (foundS T G n o c (H, R) i) 0).1 (lookS T G n o c i (foundS T G n o c (H, R) i) 0).2 (w4.alloc (.cells #[.int .u8 1, .int .u8 c, .int .u8 xr, .int .u8 o] 115)) ∧ StAt gs m wd cur (w4.alloc (.cells #[.int .u8 1, .int .u8 c, .int .u8 xr, .int .u8 o] 115))) := Lib.hid ⟨b1, c1, us1, MA.out.1, MA.out.2⟩
        clear MA
        go_wp2_with fail
        go_loopg [16] m (fun gg v wr => ∃ j : Nat, j + gg = m ∧ v = .int .i64 j ∧ Hid (∃ db dc vs, Mo Bz w us T G n N db dc vs (lookS T G n o c i (foundS T G n o c (H, R) i) j).1 (lookS T G n o c i (foundS T G n o c (H, R) i) j).2 wr ∧ StAt gs m wd cur wr))
        case atStart => exact ⟨0, by omega, rfl, HRi⟩
        case round =>
          obtain ⟨j, hj, rfl, HR⟩ := hrel
          by_cases hltj : j < m
          · obtain ⟨b2, c2, us2, hM, hS⟩ := HR.out
            have a0 := (cell_of_row hM.r5 0).trans (show _ = some (.slice (some ⟨b2, 0, none⟩) N c2) from rfl)
            have a1 := (cell_of_row hM.r5 1).trans (show _ = some (.int .i64 T) from rfl)
            have a2 := (cell_of_row hM.r5 2).trans (show _ = some (.int .i64 G) from rfl)
            have a3 := (cell_of_row hM.r5 3).trans (show _ = some (.int .i64 n) from rfl)
            have g0 := (cell_of_row hS.row j).trans (hS.ats j hltj)
            obtain ⟨hP1, hP2, hP3⟩ := HPi.out j hltj
            obtain ⟨P, hP⟩ : ∃ P, P = pl T G n c i j := ⟨_, rfl⟩
            rw [← hP] at hP1 hP2 hP3
            obtain ⟨B, hB⟩ : ∃ B : Nat, B = 3 + T + G + n + 32 * i := ⟨_, rfl⟩
            have hBl : B ≤ 5000 := by omega
            have HSi := Lib.hid (fun w => HSr.out i w hlt)
            rw [← hB] at hP1 HSi
            have hsm := HSm.out
            have hsum : IntKind.i64.wrap ((B : Int) + wd * (j : Int)) = (P : Int) := by rw [hP1]; exact IntWalk.i64_in _ (by omega)
            have hw2 := IntWalk.i64_in ((j : Int) + 1) (by omega)
            have HPe := Lib.hid hP
            have HM := Lib.hid (And.intro hM hS)
            have HS5 : Hid (H5 w.heap.size gs j T G n (wd * (j : Int)) wr wr) := Lib.hid ⟨a1, a2, a3, g0, Kp.refl _ _⟩
            have hnx2 : lookS T G n o c i (foundS T G n o c (H, R) i) (j + 1) = if frB ((lookS T G n o c i (foundS T G n o c (H, R) i) j).1.getD P 0) then ((lookS T G n o c i (foundS T G n o c (H, R) i) j).1.set P lx, Li.pushR (lookS T G n o c i (foundS T G n o c (H, R) i) j).2 c P) else lookS T G n o c i (foundS T G n o c (H, R) i) j := by rw [hP, ← hlxe]; rfl
            have hlk := HLk2.out i j hlt (by omega)
            have HNx2 := Lib.hid hnx2
            clear hnx2
            generalize lookS T G n o c i (foundS T G n o c (H, R) i) j = s at hM hS HM HNx2 hlk
            have hlen := hM.len
            obtain ⟨x2, hx2⟩ : ∃ x2, s.1.getD P 0 = x2 := ⟨_, rfl⟩
            have hx0 := hM.dh.ok P
            rw [hx2] at HNx2 hx0
            have HX2 := Lib.hid hx2
            have HLk3 := Lib.hid (hlk.len (by omega))
            clear hM hS hP hB HR HRi hlk hx2
            obtain ⟨G2, hG2⟩ : ∃ G2, G2 + 1 = gk := ⟨gk - 1, by omega⟩
            have hgl2 : G2 + 1 ≤ gk := by omega
            have hj1 : j + (G2 + 1) = m := by omega
            clear hG2 hj
            go_wp2_with fail
            go_region_held3 (fun wx => wx.cell? ⟨w.heap.size, 1, none⟩ = some (.int .i64 T) ∧ wx.cell? ⟨w.heap.size, 2, none⟩ = some (.int .i64 G) ∧ wx.cell? ⟨w.heap.size, 3, none⟩ = some (.int .i64 n) ∧ wx.cell? ⟨gs, j, none⟩ = some (.int .i64 (wd * (j : Int))) ∧ Kp [] wr wx)
              (first
                | assumption
                | exact H5.keep HS5.out ((Kp.refl [] _).drew)
                | exact H5.keep ‹H5 w.heap.size gs j T G n (wd * (j : Int)) wr _› hk9)
              (first
                | (go_at_call 47
                   refine (HSi.out _).mono ?_
                   rintro e w5 ⟨rfl, hk9⟩))
            all_goals
              rename_i hHeld
              have k9 := hHeld.2.2.2.2
              have M5 := Lib.hid (And.intro (HM.out.1.on k9) (HM.out.2.keep k9 (by simp)))
              have HMl : Hid (s.1.length = N) := Lib.hid hlen
              clear k9 hHeld a0 a1 a2 a3 g0 HS5 HM hlen
              have b0 := (cell_of_row M5.out.1.r5 0).trans (show _ = some (.slice (some ⟨b2, 0, none⟩) N c2) from rfl)
              have hc5 := M5.out.1.dh.cell (k := P) (by rw [HMl.out]; exact hP2)
              rw [HX2.out] at hc5
              have hw3 : IntKind.i64.wrap (P : Int) = (P : Int) := IntWalk.i64_in _ (by omega)
              obtain ⟨tk, ta, tq, tr, ts, te, tg, tm, hfr, htk⟩ := HTk.out x2 hx0.1 hx0.2 w5
              go_wp2_with fail
              refine htk.mono ?_
              rintro e w6 ⟨rfl, hk6⟩
              have kA : Kp [] w6 (w6.alloc (.cells #[.int .u8 tk, .int .u8 ta, .bool tg, .bool tm, .int .u8 tq, .int .u8 tr, .int .u8 ts] 81)) := (Kp.refl _ _).alloc _
              have heb := heap_alloc_new w6 (.cells #[.int .u8 tk, .int .u8 ta, .bool tg, .bool tm, .int .u8 tq, .int .u8 tr, .int .u8 ts] 81)
              have M6 := Lib.hid (And.intro (M5.out.1.on (hk6.trans kA)) (M5.out.2.keep (hk6.trans kA) (by simp)))
              have t0 := (cell_of_row heb 0).trans (show _ = some (.int .u8 tk) from rfl)
              clear hk6 kA heb M5 htk b0 hc5
              rcases (by omega : te ≠ 0 ∨ (te = 0 ∧ tk ≠ 0) ∨ (te = 0 ∧ tk = 0)) with z | ⟨rfl, z⟩ | ⟨rfl, rfl⟩
              · have z1 : (te == 0) = false := by simpa using z
                have hno : frB x2 = false := by
                  cases hb : frB x2 with
                  | false => rfl
                  | true => exact absurd (hfr.2 hb).1 z
                have hfin2 : Hid (∃ db dc vs, Mo Bz w us T G n N db dc vs (lookS T G n o c i (foundS T G n o c (H, R) i) (j + 1)).1 (lookS T G n o c i (foundS T G n o c (H, R) i) (j + 1)).2 (w6.alloc (.cells #[.int .u8 tk, .int .u8 ta, .bool tg, .bool tm, .int .u8 tq, .int .u8 tr, .int .u8 ts] 81)) ∧ StAt gs m wd cur (w6.alloc (.cells #[.int .u8 tk, .int .u8 ta, .bool tg, .bool tm, .int .u8 tq, .int .u8 tr, .int .u8 ts] 81))) := Lib.hid ⟨b2, c2, us2, by rw [HNx2.out, hno]; exact M6.out.1, M6.out.2⟩
                clear M6 HNx2 hfr hno z
                go_wp2_with fail
                go_roundg G2
                all_goals first
                  | omega
                  | exact ⟨j + 1, by omega, rfl, hfin2⟩
              · have z1 : (tk == 0) = false := by simpa using z
                have hno : frB x2 = false := by
                  cases hb : frB x2 with
                  | false => rfl
                  | true => exact absurd (hfr.2 hb).2 z
                have hfin2 : Hid (∃ db dc vs, Mo Bz w us T G n N db dc vs (lookS T G n o c i (foundS T G n o c (H, R) i) (j + 1)).1 (lookS T G n o c i (foundS T G n o c (H, R) i) (j + 1)).2 (w6.alloc (.cells #[.int .u8 tk, .int .u8 ta, .bool tg, .bool tm, .int .u8 tq, .int .u8 tr, .int .u8 ts] 81)) ∧ StAt gs m wd cur (w6.alloc (.cells #[.int .u8 tk, .int .u8 ta, .bool tg, .bool tm, .int .u8 tq, .int .u8 tr, .int .u8 ts] 81))) := Lib.hid ⟨b2, c2, us2, by rw [HNx2.out, hno]; exact M6.out.1, M6.out.2⟩
                clear M6 HNx2 hfr hno z
                go_wp2_with fail
                go_roundg G2
                all_goals first
                  | omega
                  | exact ⟨j + 1, by omega, rfl, hfin2⟩
              · have hyes : frB x2 = true := hfr.1 ⟨rfl, rfl⟩
                have HN3 : Hid (lookS T G n o c i (foundS T G n o c (H, R) i) (j + 1) = (s.1.set P lx, Li.pushR s.2 c P)) := Lib.hid (by rw [HNx2.out, hyes]; rfl)
                have hwt := M6.out.1.dh.with (k := P) (by rw [HMl.out]; exact hP2) HLw.out.1 HLw.out.2
                rw [HMl.out] at hwt
                have HWt := Lib.hid hwt
                have r0 := (cell_of_row M6.out.1.r5 0).trans (show _ = some (.slice (some ⟨b2, 0, none⟩) N c2) from rfl)
                have r1 := (cell_of_row M6.out.1.r5 1).trans (show _ = some (.int .i64 T) from rfl)
                have r2 := (cell_of_row M6.out.1.r5 2).trans (show _ = some (.int .i64 G) from rfl)
                have r3 := (cell_of_row M6.out.1.r5 3).trans (show _ = some (.int .i64 n) from rfl)
                clear HNx2 hfr hyes hwt HTk
                go_wp2_with fail
                refine HWt.out.mono ?_
                rintro e w7 ⟨b3, c3, rfl, hd7, hk7⟩
                have hr7 := hk7.row (by simp) M6.out.1.r5
                have q0 := (cell_of_row hr7 0).trans (show _ = some (.slice (some ⟨b2, 0, none⟩) N c2) from rfl)
                have q1 := (cell_of_row hr7 1).trans (show _ = some (.int .i64 T) from rfl)
                have q2 := (cell_of_row hr7 2).trans (show _ = some (.int .i64 G) from rfl)
                have q3 := (cell_of_row hr7 3).trans (show _ = some (.int .i64 n) from rfl)
                have g0 := free_of_row hr7 0
                have g1 := free_of_row hr7 1
                have g2 := free_of_row hr7 2
                have g3 := free_of_row hr7 3
                obtain ⟨W8, hW8⟩ : ∃ W8, W8 = put4v w7 w.heap.size (.slice (some ⟨b3, 0, none⟩) N c3) (.int .i64 T) (.int .i64 G) (.int .i64 n) := ⟨_, rfl⟩
                have M8 : Hid (Mo Bz w us T G n N b3 c3 us2 (s.1.set P lx) s.2 W8 ∧ StAt gs m wd cur W8) := Lib.hid (by
                  rw [hW8]
                  exact ⟨M6.out.1.heap hk7 hd7 (by rw [List.length_set]; exact HMl.out), (M6.out.2.keep hk7 (by simp)).put hr7 (by decide)⟩)
                unfold put4v at hW8
                have HW8 := Lib.hid hW8
                clear hW8 hr7 hd7 hk7 HWt M6 t0 r0 r1 r2 r3
                go_upto_region 15 with (fail)
                rw [← HW8.out]
                clear HW8 q0 q1 q2 q3 g0 g1 g2 g3
                have HPu := Lib.hid (Li.rpush_is W8 us2 s.2 c P M8.out.1.rd HLk3.out M8.out.1.lt4)
                go_wp2_with (first
                  | (refine wpList_load_row rfl 72 _ rfl (w.heap.size + 1) rfl 72 _ _ _ M8.out.1.r6 Tryz.underlying72 rfl (by kernel_rfl) ?_))
                refine HPu.out.mono ?_
                rintro e w9 ⟨us3, rfl, hk9, hr9, hb9⟩
                have HR9 := Lib.hid (hk9.row (by simp) M8.out.1.r6)
                have hon : ∀ d, d < 4 → (us3 d).oneCell' = true := fun d hd => (hr9 d hd).one
                have HON : Hid ((#[us3 0, us3 1, us3 2, us3 3] : Array Value).all (·.oneCell') = true) := Lib.hid (Li.ones_of (hon 0 (by omega)) (hon 1 (by omega)) (hon 2 (by omega)) (hon 3 (by omega)))
                have hfin2 : Hid (∃ db dc vs, Mo Bz w us T G n N db dc vs (lookS T G n o c i (foundS T G n o c (H, R) i) (j + 1)).1 (lookS T G n o c i (foundS T G n o c (H, R) i) (j + 1)).2 (w9.setRow (w.heap.size + 1) #[us3 0, us3 1, us3 2, us3 3]) ∧ StAt gs m wd cur (w9.setRow (w.heap.size + 1) #[us3 0, us3 1, us3 2, us3 3])) := Lib.hid ⟨b3, c3, us3, by rw [HN3.out]; exact M8.out.1.list' hk9 hr9 hb9, (M8.out.2.keep hk9 (by simp)).keep (setRow_kp _ _ _) (by rw [List.mem_singleton]; exact Gx.ne_types (M8.out.2.keep hk9 (by simp)).row HR9.out (by decide))⟩
                clear hk9 hr9 hb9 hon HN3 M8 HPu
                go_wp2_with (refine wpList_store_row rfl 72 _ _ rfl (w.heap.size + 1) _ rfl rfl 72 _ HR9.out (by kernel_rfl) rfl HON.out ?_)
                go_roundg G2
                all_goals first
                  | omega
                  | exact ⟨j + 1, by omega, rfl, hfin2⟩
          · obtain rfl : j = m := by omega
            have hfin : Hid (∃ db dc vs, Mo Bz w us T G n N db dc vs (foundS T G n o c (H, R) (i + 1)).1 (foundS T G n o c (H, R) (i + 1)).2 wr ∧ StAt gs j wd cur wr) := Lib.hid (by rw [HNx.out]; exact HR.out)
            clear HNx HR HRi
            go_wp2_with fail
            go_roundg G1
            all_goals first
              | omega
              | exact ⟨i + 1, by omega, rfl, hfin⟩
      · have hE2 : ¬ (xk = 1 ∧ xc = c ∧ xo = o) := fun z => hE (hask.2 z)
        rw [if_neg hE] at hnx
        have HNx := Lib.hid hnx
        clear hnx hask hE
        have hfin : Hid (∃ db dc vs, Mo Bz w us T G n N db dc vs (foundS T G n o c (H, R) (i + 1)).1 (foundS T G n o c (H, R) (i + 1)).2 (w4.alloc (.cells #[.int .u8 xk, .int .u8 xc, .int .u8 xr, .int .u8 xo] 115)) ∧ StAt gs m wd cur (w4.alloc (.cells #[.int .u8 xk, .int .u8 xc, .int .u8 xr, .int .u8 xo] 115))) := Lib.hid ⟨b1, c1, us1, by rw [HNx.out]; exact MA.out.1, MA.out.2⟩
        clear MA HNx
        rcases (by omega : xk ≠ 1 ∨ (xk = 1 ∧ xc ≠ c) ∨ (xk = 1 ∧ xc = c ∧ xo ≠ o)) with z | ⟨rfl, z⟩ | ⟨rfl, rfl, z⟩
        · have z1 : (xk == 1) = false := by simpa using z
          clear hE2
          go_wp2_with fail
          go_roundg G1
          all_goals first
            | omega
            | exact ⟨i + 1, by omega, rfl, hfin⟩
        · have z1 : (xc == (c : Int)) = false := by simpa using z
          have z2 := IntWalk.i64_in xc (by omega)
          clear hE2
          go_wp2_with fail
          go_roundg G1
          all_goals first
            | omega
            | exact ⟨i + 1, by omega, rfl, hfin⟩
        · have z1 : (xo == (o : Int)) = false := by simpa using z
          have z2 := IntWalk.i64_in (c : Int) (by omega)
          clear hE2
          go_wp2_with fail
          go_roundg G1
          all_goals first
            | omega
            | exact ⟨i + 1, by omega, rfl, hfin⟩
      --}}
    · obtain rfl : n = i := by omega
      clear hM hS HM a0 a1 a2 a3
      obtain ⟨b1, c1, us1, hM, hS⟩ := HR.out
      obtain ⟨A0, A1, A2, A3, l0, k0, l1, k1, l2, k2, l3, k3, hM⟩ := hM.slices
      have a0 := (cell_of_row hM.r5 0).trans (show _ = some (.slice (some ⟨b1, 0, none⟩) N c1) from rfl)
      have a1 := (cell_of_row hM.r5 1).trans (show _ = some (.int .i64 T) from rfl)
      have a2 := (cell_of_row hM.r5 2).trans (show _ = some (.int .i64 G) from rfl)
      have a3 := (cell_of_row hM.r5 3).trans (show _ = some (.int .i64 n) from rfl)
      have HM := Lib.hid (And.intro hM hS)
      have hms := moreS_eq T G n o c wk (H, R)
      have hiv : Ivn T G n (foundS T G n o c (H, R) n).1 := HIv.out.low (found_low n)
      have hlk := HLk.out n (Nat.le_refl n)
      generalize foundS T G n o c (H, R) n = s at hM hS HM hms hiv hlk
      have HLk1 := Lib.hid hlk
      clear hlk HLk
      obtain ⟨ao, cap, hlc⟩ := hM.len4 hc
      obtain ⟨L, hL⟩ : ∃ L, L = (s.2 c).length := ⟨_, rfl⟩
      rw [← hL] at hlc
      have HIs := Lib.hid hiv
      clear hS HR hlt HF HLk2 HLf HLl hiv hi
      by_cases hl0 : 0 < (L : Int)
      · have hmr : moreS T G n o c wk (H, R) = s := by
          rw [hms, if_neg]
          intro e
          rw [e] at hL
          simp at hL
          omega
        have HMS := Lib.hid hmr
        --{{
        have z0 := (cell_of_row hM.r10 0).trans (show _ = some (.slice none 0 0) from rfl)
        have z1 := (cell_of_row hM.r10 1).trans (show _ = some (.int .i64 0) from rfl)
        have z2 := (cell_of_row hM.r10 2).trans (show _ = some (.int .i64 0) from rfl)
        have z3 := (cell_of_row hM.r10 3).trans (show _ = some (.int .i64 0) from rfl)
        have y0 := free_of_row hM.r10 0
        have y1 := free_of_row hM.r10 1
        have y2 := free_of_row hM.r10 2
        have y3 := free_of_row hM.r10 3
        clear hM hms hL hmr
        go_upto_region 17 with (fail)
        have x0 := (cell_of_row HM.out.1.r6 0).trans (show _ = some (.slice A0 l0 k0) from rfl)
        have x1 := (cell_of_row HM.out.1.r6 1).trans (show _ = some (.slice A1 l1 k1) from rfl)
        have x2 := (cell_of_row HM.out.1.r6 2).trans (show _ = some (.slice A2 l2 k2) from rfl)
        have x3 := (cell_of_row HM.out.1.r6 3).trans (show _ = some (.slice A3 l3 k3) from rfl)
        have v0 := (cell_of_row HM.out.1.r11 0).trans (show _ = some (.slice none 0 0) from rfl)
        have v1 := (cell_of_row HM.out.1.r11 1).trans (show _ = some (.slice none 0 0) from rfl)
        have v2 := (cell_of_row HM.out.1.r11 2).trans (show _ = some (.slice none 0 0) from rfl)
        have v3 := (cell_of_row HM.out.1.r11 3).trans (show _ = some (.slice none 0 0) from rfl)
        have q0 := free_of_row HM.out.1.r11 0
        have q1 := free_of_row HM.out.1.r11 1
        have q2 := free_of_row HM.out.1.r11 2
        have q3 := free_of_row HM.out.1.r11 3
        go_region
        all_goals
          go_wp2_with fail
          have F := HM.out.1.fin (Kp.refl [] wr) HM.out.1.dh rfl
          refine bodyPost_cell2 rfl ⟨w.heap.size + 2, 0, none⟩ ⟨w.heap.size + 3, 0, none⟩ _ _ rfl rfl (load_row F.1 Tryz.underlying40 rfl (by kernel_rfl)) (load_row F.2.1 Tryz.underlying72 rfl (by kernel_rfl)) rfl ?_
          rw [HMS.out]
          exact ⟨b1, c1, _, rfl, F.2.2.1, F.2.2.2.1, F.2.2.2.2.1, F.2.2.2.2.2⟩
        --}}
      · have hs0 : s.2 c = [] := List.eq_nil_of_length_eq_zero (by rw [← hL]; omega)
        rw [if_pos hs0] at hms
        unfold restS at hms
        have hl00 : L = 0 := by omega
        subst hl00
        obtain ⟨H1, hH1⟩ : ∃ H1, H1 = tidyH T G n o wk s.1 := ⟨_, rfl⟩
        rw [← hH1] at hms
        have hiv1 : Ivn T G n H1 := by rw [hH1]; exact HIs.out.tidy hn64
        have HIs1 := Lib.hid hiv1
        have HMS := Lib.hid hms
        have HH1 := Lib.hid hH1
        have HMl : Hid (s.1.length = N) := Lib.hid hM.len
        clear hms hH1 hiv1 hL hs0 hM
        go_upto_if 105 with (fail)
        go_cut [] (fun wc => Hid (∃ b c, Mo Bz w us T G n N b c (sl A0 A1 A2 A3 l0 k0 l1 k1 l2 k2 l3 k3) H1 s.2 wc ∧ StAt gs m wd cur wc))
        case first =>
          cases wk
          case' false =>
            have hwt := d_waiting HM.out.1.dh o (by omega) (fun i hi h5 => absurd h5 ((HIs.out.wait hn64 i).ent i hi))
            have hH1 := HH1.out
            unfold tidyH at hH1
            simp only [if_false, Bool.false_eq_true] at hH1
            rw [← hH1, HMl.out] at hwt
            have HWt := Lib.hid hwt
            clear hwt hH1
            go_upto_region 19 with (fail)
            go_wp2_with fail
            refine HWt.out.mono ?_
            rintro e w7 ⟨b3, c3, rfl, hd7, hk7⟩
            have hr7 := hk7.row (by simp) HM.out.1.r5
            have q0 := (cell_of_row hr7 0).trans (show _ = some (.slice (some ⟨b1, 0, none⟩) N c1) from rfl)
            have q1 := (cell_of_row hr7 1).trans (show _ = some (.int .i64 T) from rfl)
            have q2 := (cell_of_row hr7 2).trans (show _ = some (.int .i64 G) from rfl)
            have q3 := (cell_of_row hr7 3).trans (show _ = some (.int .i64 n) from rfl)
            have g0 := free_of_row hr7 0
            have g1 := free_of_row hr7 1
            have g2 := free_of_row hr7 2
            have g3 := free_of_row hr7 3
            have M8 : Hid (∃ b c, Mo Bz w us T G n N b c (sl A0 A1 A2 A3 l0 k0 l1 k1 l2 k2 l3 k3) H1 s.2 (put4v w7 w.heap.size (.slice (some ⟨b3, 0, none⟩) N c3) (.int .i64 T) (.int .i64 G) (.int .i64 n)) ∧ StAt gs m wd cur (put4v w7 w.heap.size (.slice (some ⟨b3, 0, none⟩) N c3) (.int .i64 T) (.int .i64 G) (.int .i64 n))) := Lib.hid
              ⟨b3, c3, HM.out.1.heap hk7 hd7 (by rw [HH1.out, tidyH_len]; exact HMl.out), (HM.out.2.keep hk7 (by simp)).put hr7 (by decide)⟩
            clear hr7 hd7 hk7 HWt HM
            go_wp2_with fail
            go_meet
            exact M8
          case' true =>
            have M8 : Hid (∃ b c, Mo Bz w us T G n N b c (sl A0 A1 A2 A3 l0 k0 l1 k1 l2 k2 l3 k3) H1 s.2 wr ∧ StAt gs m wd cur wr) := Lib.hid (by
              rw [HH1.out]
              exact ⟨b1, c1, HM.out.1, HM.out.2⟩)
            clear HM
            go_wp2_with fail
            go_meet
            exact M8
        case rest =>
          have M8 := hcut
          clear hcut HM a0 a1 a2 a3 hlc HMl HIs HH1
          obtain ⟨b4, c4, hM4, hS4⟩ := M8.out
          have M4 := Lib.hid (And.intro hM4 hS4)
          have a0 := (cell_of_row hM4.r5 0).trans (show _ = some (.slice (some ⟨b4, 0, none⟩) N c4) from rfl)
          have a1 := (cell_of_row hM4.r5 1).trans (show _ = some (.int .i64 T) from rfl)
          have a2 := (cell_of_row hM4.r5 2).trans (show _ = some (.int .i64 G) from rfl)
          have a3 := (cell_of_row hM4.r5 3).trans (show _ = some (.int .i64 n) from rfl)
          cases hf : frst (H1.getD 0 0).toNat 1 with
          | none =>
            --{{
            have hcl := d_claim_no hM4.dh 1 hf
            rw [hM4.len] at hcl
            have HCl := Lib.hid hcl
            have hm := HMS.out
            rw [hf] at hm
            have HM2 : Hid (moreS T G n o c wk (H, R) = (H1, s.2)) := Lib.hid hm
            clear hm hcl hM4 hS4 M8 HMS hf
            go_wp2_with fail
            refine HCl.out.mono ?_
            rintro e w7 ⟨rfl, hk7⟩
            have hr7 := hk7.row (by simp) M4.out.1.r5
            have q0 := (cell_of_row hr7 0).trans (show _ = some (.slice (some ⟨b4, 0, none⟩) N c4) from rfl)
            have q1 := (cell_of_row hr7 1).trans (show _ = some (.int .i64 T) from rfl)
            have q2 := (cell_of_row hr7 2).trans (show _ = some (.int .i64 G) from rfl)
            have q3 := (cell_of_row hr7 3).trans (show _ = some (.int .i64 n) from rfl)
            have g0 := free_of_row hr7 0
            have g1 := free_of_row hr7 1
            have g2 := free_of_row hr7 2
            have g3 := free_of_row hr7 3
            obtain ⟨W9, hW9⟩ : ∃ W9, W9 = put4v w7 w.heap.size (.slice (some ⟨b4, 0, none⟩) N c4) (.int .i64 T) (.int .i64 G) (.int .i64 n) := ⟨_, rfl⟩
            have M9 : Hid (Mo Bz w us T G n N b4 c4 (sl A0 A1 A2 A3 l0 k0 l1 k1 l2 k2 l3 k3) H1 s.2 W9) := Lib.hid (by
              rw [hW9]
              exact M4.out.1.heap hk7 (M4.out.1.dh.on hk7) M4.out.1.len)
            unfold put4v at hW9
            have HW9 := Lib.hid hW9
            clear hW9 hr7 hk7 HCl M4 a0 a1 a2 a3
            go_upto_region 22 with (fail)
            rw [← HW9.out]
            clear HW9 q0 q1 q2 q3 g0 g1 g2 g3
            have a0 := (cell_of_row M9.out.r5 0).trans (show _ = some (.slice (some ⟨b4, 0, none⟩) N c4) from rfl)
            have a1 := (cell_of_row M9.out.r5 1).trans (show _ = some (.int .i64 T) from rfl)
            have a2 := (cell_of_row M9.out.r5 2).trans (show _ = some (.int .i64 G) from rfl)
            have a3 := (cell_of_row M9.out.r5 3).trans (show _ = some (.int .i64 n) from rfl)
            have x0 := (cell_of_row M9.out.r6 0).trans (show _ = some (.slice A0 l0 k0) from rfl)
            have x1 := (cell_of_row M9.out.r6 1).trans (show _ = some (.slice A1 l1 k1) from rfl)
            have x2 := (cell_of_row M9.out.r6 2).trans (show _ = some (.slice A2 l2 k2) from rfl)
            have x3 := (cell_of_row M9.out.r6 3).trans (show _ = some (.slice A3 l3 k3) from rfl)
            have z0 := (cell_of_row M9.out.r10 0).trans (show _ = some (.slice none 0 0) from rfl)
            have z1 := (cell_of_row M9.out.r10 1).trans (show _ = some (.int .i64 0) from rfl)
            have z2 := (cell_of_row M9.out.r10 2).trans (show _ = some (.int .i64 0) from rfl)
            have z3 := (cell_of_row M9.out.r10 3).trans (show _ = some (.int .i64 0) from rfl)
            have y0 := free_of_row M9.out.r10 0
            have y1 := free_of_row M9.out.r10 1
            have y2 := free_of_row M9.out.r10 2
            have y3 := free_of_row M9.out.r10 3
            have v0 := (cell_of_row M9.out.r11 0).trans (show _ = some (.slice none 0 0) from rfl)
            have v1 := (cell_of_row M9.out.r11 1).trans (show _ = some (.slice none 0 0) from rfl)
            have v2 := (cell_of_row M9.out.r11 2).trans (show _ = some (.slice none 0 0) from rfl)
            have v3 := (cell_of_row M9.out.r11 3).trans (show _ = some (.slice none 0 0) from rfl)
            have q0 := free_of_row M9.out.r11 0
            have q1 := free_of_row M9.out.r11 1
            have q2 := free_of_row M9.out.r11 2
            have q3 := free_of_row M9.out.r11 3
            go_region
            all_goals
              go_wp2_with fail
              have F := M9.out.fin (Kp.refl [] W9) M9.out.dh rfl
              refine bodyPost_cell2 rfl ⟨w.heap.size + 2, 0, none⟩ ⟨w.heap.size + 3, 0, none⟩ _ _ rfl rfl (load_row F.1 Tryz.underlying40 rfl (by kernel_rfl)) (load_row F.2.1 Tryz.underlying72 rfl (by kernel_rfl)) rfl ?_
              rw [HM2.out]
              exact ⟨b4, c4, _, rfl, F.2.2.1, F.2.2.2.1, F.2.2.2.2.1, F.2.2.2.2.2⟩
            --}}
          | some k =>
            have hkn : k + 1 ≤ n := frst_fit HIs1.out (Nat.le_refl 1) hf
            have hcl := d_claim_yes hM4.dh 1 k (by omega) hf
            rw [hM4.len] at hcl
            have hm := HMS.out
            rw [hf] at hm
            obtain ⟨H2, hH2⟩ : ∃ H2, H2 = H1.set 0 (Bm.setN (H1.getD 0 0).toNat k 1 false : Int) := ⟨_, rfl⟩
            rw [← hH2] at hcl
            have HM2 : Hid (moreS T G n o c wk (H, R) = cutS T G n o c (H2, s.2) k) := Lib.hid (by rw [hH2]; exact hm)
            have hH2l : H2.length = N := by rw [hH2, List.length_set]; exact hM4.len
            have HLH := Lib.hid hH2l
            have HCl := Lib.hid hcl
            have hk0 : ¬ (k : Int) < 0 := by omega
            clear hm hcl hM4 hS4 M8 HMS hf hH2 hH2l
            go_wp2_with fail
            refine HCl.out.mono ?_
            rintro e w7 ⟨b5, c5, rfl, hd7, hk7⟩
            have hr7 := hk7.row (by simp) M4.out.1.r5
            have q0 := (cell_of_row hr7 0).trans (show _ = some (.slice (some ⟨b4, 0, none⟩) N c4) from rfl)
            have q1 := (cell_of_row hr7 1).trans (show _ = some (.int .i64 T) from rfl)
            have q2 := (cell_of_row hr7 2).trans (show _ = some (.int .i64 G) from rfl)
            have q3 := (cell_of_row hr7 3).trans (show _ = some (.int .i64 n) from rfl)
            have g0 := free_of_row hr7 0
            have g1 := free_of_row hr7 1
            have g2 := free_of_row hr7 2
            have g3 := free_of_row hr7 3
            obtain ⟨W9, hW9⟩ : ∃ W9, W9 = put4v w7 w.heap.size (.slice (some ⟨b5, 0, none⟩) N c5) (.int .i64 T) (.int .i64 G) (.int .i64 n) := ⟨_, rfl⟩
            have M9 : Hid (Mo Bz w us T G n N b5 c5 (sl A0 A1 A2 A3 l0 k0 l1 k1 l2 k2 l3 k3) H2 s.2 W9 ∧ StAt gs m wd cur W9) := Lib.hid (by
              rw [hW9]
              exact ⟨M4.out.1.heap hk7 hd7 HLH.out, (M4.out.2.keep hk7 (by simp)).put hr7 (by decide)⟩)
            unfold put4v at hW9
            have HW9 := Lib.hid hW9
            clear hW9 hr7 hk7 hd7 HCl M4 a0 a1 a2 a3
            go_upto_region 23 with (fail)
            rw [← HW9.out]
            clear HW9 q0 q1 q2 q3 g0 g1 g2 g3
            have hw4 := IntWalk.i64_in ((m : Int) - 1) (by omega)
            have HSk := Lib.hid (fun w => HSr.out k w (by omega))
            have HPk := Lib.hid (fun j hj => HPl.out k j (by omega) hj)
            have HLp : Hid (∀ j, j ≤ m → Lok N (pushS T G n c k m s.2 j)) := Lib.hid fun j hj => pushS_ok hc (by omega) Hm.out (by rw [HNn.out, HIv.out.len]; omega) HLk1.out j hj
            have HMk : Hid (∀ j, markD T G n o c k m H2 (j + 1) = (markD T G n o c k m H2 j).set (pl T G n c k (m - 1 - j)) lx) := Lib.hid fun j => by rw [← hlxe]; rfl
            have HMl2 : Hid (∀ j, (markD T G n o c k m H2 j).length = N) := Lib.hid fun j => by rw [markD_len]; exact HLH.out
            go_wp2_with fail
            go_loopg [21] m (fun gg v wr => ∃ j : Nat, j + gg = m ∧ v = .int .i64 ((m : Int) - 1 - (j : Int)) ∧ Hid (∃ db dc vs, Mo Bz w us T G n N db dc vs (markD T G n o c k m H2 j) (pushS T G n c k m s.2 j) wr ∧ StAt gs m wd cur wr))
            case atStart => exact ⟨0, by omega, congrArg (Value.int .i64) (by omega), Lib.hid ⟨b5, c5, _, M9.out.1, M9.out.2⟩⟩
            case round =>
              obtain ⟨j, hj, rfl, HR⟩ := hrel
              by_cases hltj : j < m
              ·
                --{{
                obtain ⟨q, hq⟩ : ∃ q, q = m - 1 - j := ⟨_, rfl⟩
                have hqm : q < m := by omega
                have hqz : (m : Int) - 1 - (j : Int) = (q : Int) := by omega
                rw [hqz]
                obtain ⟨b2, c2, us2, hM, hS⟩ := HR.out
                have a0 := (cell_of_row hM.r5 0).trans (show _ = some (.slice (some ⟨b2, 0, none⟩) N c2) from rfl)
                have a1 := (cell_of_row hM.r5 1).trans (show _ = some (.int .i64 T) from rfl)
                have a2 := (cell_of_row hM.r5 2).trans (show _ = some (.int .i64 G) from rfl)
                have a3 := (cell_of_row hM.r5 3).trans (show _ = some (.int .i64 n) from rfl)
                have g0 := (cell_of_row hS.row q).trans (hS.ats q hqm)
                obtain ⟨hP1, hP2, hP3⟩ := HPk.out q hqm
                obtain ⟨P, hP⟩ : ∃ P, P = pl T G n c k q := ⟨_, rfl⟩
                rw [← hP] at hP1 hP2 hP3
                obtain ⟨B, hB⟩ : ∃ B : Nat, B = 3 + T + G + n + 32 * k := ⟨_, rfl⟩
                have hBl : B ≤ 5000 := by omega
                have hsk := fun w => HSk.out w
                rw [← hB] at hP1 hsk
                have HSi := Lib.hid hsk
                have hsum : IntKind.i64.wrap ((B : Int) + wd * (q : Int)) = (P : Int) := by rw [hP1]; exact IntWalk.i64_in _ (by omega)
                have hw2 := IntWalk.i64_in ((q : Int) - 1) (by omega)
                have hqj : Hid ((q : Int) - 1 = (m : Int) - 1 - ((j + 1 : Nat) : Int)) := Lib.hid (by omega)
                have hge : ¬ (q : Int) < 0 := by omega
                have hge2 : (0 : Int) ≤ (q : Int) := by omega
                have HM := Lib.hid (And.intro hM hS)
                have HS5 : Hid (H5 w.heap.size gs q T G n (wd * (q : Int)) wr wr) := Lib.hid ⟨a1, a2, a3, g0, Kp.refl _ _⟩
                have hmk := HMk.out j
                have hpk : pushS T G n c k m s.2 (j + 1) = Li.pushR (pushS T G n c k m s.2 j) c (pl T G n c k (m - 1 - j)) := rfl
                rw [← hq, ← hP] at hmk hpk
                have HMj := Lib.hid hmk
                have HPj := Lib.hid hpk
                have hlk := (HLp.out j (by omega)).len hsm
                have HMl : Hid ((markD T G n o c k m H2 j).length = N) := HMl2.out j |> Lib.hid
                generalize hgm : markD T G n o c k m H2 j = Hm' at hM HM HMj HMl
                generalize hgp : pushS T G n c k m s.2 j = Rm at hM HM HPj hlk
                have HLk3 := Lib.hid hlk
                clear hM hS hP hB HR hlk hmk hpk hsk hgm hgp hqz hq
                obtain ⟨G2, hG2⟩ : ∃ G2, G2 + 1 = gk := ⟨gk - 1, by omega⟩
                have hgl2 : G2 + 1 ≤ gk := by omega
                have hj1 : j + (G2 + 1) = m := by omega
                clear hG2 hj
                go_wp2_with fail
                go_region_held3 (fun wx => wx.cell? ⟨w.heap.size, 1, none⟩ = some (.int .i64 T) ∧ wx.cell? ⟨w.heap.size, 2, none⟩ = some (.int .i64 G) ∧ wx.cell? ⟨w.heap.size, 3, none⟩ = some (.int .i64 n) ∧ wx.cell? ⟨gs, q, none⟩ = some (.int .i64 (wd * (q : Int))) ∧ Kp [] wr wx)
                  (first
                    | assumption
                    | exact H5.keep HS5.out ((Kp.refl [] _).drew)
                    | exact H5.keep ‹H5 w.heap.size gs q T G n (wd * (q : Int)) wr _› hk9)
                  (first
                    | (go_at_call 47
                       refine (HSi.out _).mono ?_
                       rintro e w5 ⟨rfl, hk9⟩))
                all_goals
                  rename_i hHeld
                  have k9 := hHeld.2.2.2.2
                  have M6 := Lib.hid (And.intro (HM.out.1.on k9) (HM.out.2.keep k9 (by simp)))
                  clear k9 hHeld a0 a1 a2 a3 g0 HS5 HM
                  have hwt := M6.out.1.dh.with (k := P) (by rw [HMl.out]; exact hP2) HLw.out.1 HLw.out.2
                  rw [HMl.out] at hwt
                  have HWt := Lib.hid hwt
                  have hw3 : IntKind.i64.wrap (P : Int) = (P : Int) := IntWalk.i64_in _ (by omega)
                  have r0 := (cell_of_row M6.out.1.r5 0).trans (show _ = some (.slice (some ⟨b2, 0, none⟩) N c2) from rfl)
                  have r1 := (cell_of_row M6.out.1.r5 1).trans (show _ = some (.int .i64 T) from rfl)
                  have r2 := (cell_of_row M6.out.1.r5 2).trans (show _ = some (.int .i64 G) from rfl)
                  have r3 := (cell_of_row M6.out.1.r5 3).trans (show _ = some (.int .i64 n) from rfl)
                  clear hwt
                  go_wp2_with fail
                  refine HWt.out.mono ?_
                  rintro e w7 ⟨b3, c3, rfl, hd7, hk7⟩
                  have hr7 := hk7.row (by simp) M6.out.1.r5
                  have q0 := (cell_of_row hr7 0).trans (show _ = some (.slice (some ⟨b2, 0, none⟩) N c2) from rfl)
                  have q1 := (cell_of_row hr7 1).trans (show _ = some (.int .i64 T) from rfl)
                  have q2 := (cell_of_row hr7 2).trans (show _ = some (.int .i64 G) from rfl)
                  have q3 := (cell_of_row hr7 3).trans (show _ = some (.int .i64 n) from rfl)
                  have g0 := free_of_row hr7 0
                  have g1 := free_of_row hr7 1
                  have g2 := free_of_row hr7 2
                  have g3 := free_of_row hr7 3
                  obtain ⟨W8, hW8⟩ : ∃ W8, W8 = put4v w7 w.heap.size (.slice (some ⟨b3, 0, none⟩) N c3) (.int .i64 T) (.int .i64 G) (.int .i64 n) := ⟨_, rfl⟩
                  have M8 : Hid (Mo Bz w us T G n N b3 c3 us2 (Hm'.set P lx) Rm W8 ∧ StAt gs m wd cur W8) := Lib.hid (by
                    rw [hW8]
                    exact ⟨M6.out.1.heap hk7 hd7 (by rw [List.length_set]; exact HMl.out), (M6.out.2.keep hk7 (by simp)).put hr7 (by decide)⟩)
                  unfold put4v at hW8
                  have HW8 := Lib.hid hW8
                  clear hW8 hr7 hd7 hk7 HWt M6 r0 r1 r2 r3
                  go_upto_region 28 with (fail)
                  rw [← HW8.out]
                  clear HW8 q0 q1 q2 q3 g0 g1 g2 g3
                  have HPu := Lib.hid (Li.rpush_is W8 us2 Rm c P M8.out.1.rd HLk3.out M8.out.1.lt4)
                  go_wp2_with (first
                    | (refine wpList_load_row rfl 72 _ rfl (w.heap.size + 1) rfl 72 _ _ _ M8.out.1.r6 Tryz.underlying72 rfl (by kernel_rfl) ?_))
                  refine HPu.out.mono ?_
                  rintro e w9 ⟨us3, rfl, hk9, hr9, hb9⟩
                  have HR9 := Lib.hid (hk9.row (by simp) M8.out.1.r6)
                  have hon : ∀ d, d < 4 → (us3 d).oneCell' = true := fun d hd => (hr9 d hd).one
                  have HON : Hid ((#[us3 0, us3 1, us3 2, us3 3] : Array Value).all (·.oneCell') = true) := Lib.hid (Li.ones_of (hon 0 (by omega)) (hon 1 (by omega)) (hon 2 (by omega)) (hon 3 (by omega)))
                  have hfin2 : Hid (∃ db dc vs, Mo Bz w us T G n N db dc vs (markD T G n o c k m H2 (j + 1)) (pushS T G n c k m s.2 (j + 1)) (w9.setRow (w.heap.size + 1) #[us3 0, us3 1, us3 2, us3 3]) ∧ StAt gs m wd cur (w9.setRow (w.heap.size + 1) #[us3 0, us3 1, us3 2, us3 3])) := Lib.hid ⟨b3, c3, us3, by rw [HMj.out, HPj.out]; exact M8.out.1.list' hk9 hr9 hb9, (M8.out.2.keep hk9 (by simp)).keep (setRow_kp _ _ _) (by rw [List.mem_singleton]; exact Gx.ne_types (M8.out.2.keep hk9 (by simp)).row HR9.out (by decide))⟩
                  clear hk9 hr9 hb9 hon HMj HPj M8 HPu
                  go_wp2_with (refine wpList_store_row rfl 72 _ _ rfl (w.heap.size + 1) _ rfl rfl 72 _ HR9.out (by kernel_rfl) rfl HON.out ?_)
                  go_roundg G2
                  all_goals first
                    | omega
                    | exact ⟨j + 1, by omega, congrArg (Value.int .i64) hqj.out, hfin2⟩
                --}}
              · obtain rfl : m = j := by omega
                have hjz : ¬ (0 : Int) ≤ (m : Int) - 1 - (m : Int) := by omega
                have hjz2 : (m : Int) - 1 - (m : Int) < 0 := by omega
                obtain ⟨b6, c6, us6, hM, hS⟩ := HR.out
                have hmd : markD T G n o c k m H2 m = markS T G n o c k H2 m := markD_same m
                rw [hmd] at hM
                obtain ⟨B0, B1, B2, B3, e0, f0, e1, f1, e2, f2, e3, f3, hM⟩ := hM.slices
                have a0 := (cell_of_row hM.r5 0).trans (show _ = some (.slice (some ⟨b6, 0, none⟩) N c6) from rfl)
                have a1 := (cell_of_row hM.r5 1).trans (show _ = some (.int .i64 T) from rfl)
                have a2 := (cell_of_row hM.r5 2).trans (show _ = some (.int .i64 G) from rfl)
                have a3 := (cell_of_row hM.r5 3).trans (show _ = some (.int .i64 n) from rfl)
                have x0 := (cell_of_row hM.r6 0).trans (show _ = some (.slice B0 e0 f0) from rfl)
                have x1 := (cell_of_row hM.r6 1).trans (show _ = some (.slice B1 e1 f1) from rfl)
                have x2 := (cell_of_row hM.r6 2).trans (show _ = some (.slice B2 e2 f2) from rfl)
                have x3 := (cell_of_row hM.r6 3).trans (show _ = some (.slice B3 e3 f3) from rfl)
                have z0 := (cell_of_row hM.r10 0).trans (show _ = some (.slice none 0 0) from rfl)
                have z1 := (cell_of_row hM.r10 1).trans (show _ = some (.int .i64 0) from rfl)
                have z2 := (cell_of_row hM.r10 2).trans (show _ = some (.int .i64 0) from rfl)
                have z3 := (cell_of_row hM.r10 3).trans (show _ = some (.int .i64 0) from rfl)
                have y0 := free_of_row hM.r10 0
                have y1 := free_of_row hM.r10 1
                have y2 := free_of_row hM.r10 2
                have y3 := free_of_row hM.r10 3
                have v0 := (cell_of_row hM.r11 0).trans (show _ = some (.slice none 0 0) from rfl)
                have v1 := (cell_of_row hM.r11 1).trans (show _ = some (.slice none 0 0) from rfl)
                have v2 := (cell_of_row hM.r11 2).trans (show _ = some (.slice none 0 0) from rfl)
                have v3 := (cell_of_row hM.r11 3).trans (show _ = some (.slice none 0 0) from rfl)
                have q0 := free_of_row hM.r11 0
                have q1 := free_of_row hM.r11 1
                have q2 := free_of_row hM.r11 2
                have q3 := free_of_row hM.r11 3
                have hcut : cutS T G n o c (H2, s.2) k = ((markS T G n o c k H2 m).set (3 + T + G + k) (Tb.wordE 1 c 0 o), pushS T G n c k m s.2 m) := by unfold cutS; rw [← Hm.out]
                have hm2 := HM2.out
                rw [hcut] at hm2
                have HM3 := Lib.hid hm2
                have HL6 : Hid ((markS T G n o c k H2 m).length = N) := Lib.hid hM.len
                generalize markS T G n o c k H2 m = H6 at hM HM3 HL6
                generalize pushS T G n c k m s.2 m = R6 at hM HM3
                have HSE : Hid (∀ w', Kp [] wr w' → Calls Tryz.prog 87 #[hV b6 c6 N T G n, .int .i64 k, .agg #[.int .u8 1, .int .u8 c, .int .u8 0, .int .u8 o]] w' fun e w'' => ∃ b' c', e = .returned (hV b' c' N T G n) ∧ Dh Bz T G n b' c' (H6.set (3 + T + G + k) (Tb.wordE 1 c 0 o)) w'' ∧ Kp [] w' w'') := Lib.hid fun w' kk => by
                  have := d_setEntry (hM.dh.on kk) k (by omega) 1 c 0 o (by decide) (by omega) (by decide) (by omega) (Tb.mayE_iff.2 (by omega))
                  rw [HL6.out] at this
                  exact this
                have hwc : IntKind.u8.wrap (c : Int) = (c : Int) := IntWalk.u8_in _ (by omega)
                have M6 := Lib.hid hM
                clear hM hS hmd hcut hm2 HR HM2 HLp HMk HMl2 HPk HSk
                go_upto_region 29 with (fail)
                go_region_with
                  (first
                  | (go_at_call 87
                     refine (HSE.out _ ?_).mono ?_
                     · exact ⟨rfl, rfl, rfl, Nat.le_refl _, fun _ _ _ => rfl⟩
                     rintro e w7 ⟨b7, c7, rfl, hd7, hk9⟩
                     have K7 : Hid (Kp [] wr w7) := Lib.hid (by refine Kp.trans ?_ hk9; exact ⟨rfl, rfl, rfl, Nat.le_refl _, fun _ _ _ => rfl⟩)
                     have HD7 := Lib.hid hd7
                     have M7 := Lib.hid (M6.out.on K7.out)
                     have x0 := (cell_of_row M7.out.r6 0).trans (show _ = some (.slice B0 e0 f0) from rfl)
                     have x1 := (cell_of_row M7.out.r6 1).trans (show _ = some (.slice B1 e1 f1) from rfl)
                     have x2 := (cell_of_row M7.out.r6 2).trans (show _ = some (.slice B2 e2 f2) from rfl)
                     have x3 := (cell_of_row M7.out.r6 3).trans (show _ = some (.slice B3 e3 f3) from rfl)
                     have z0 := (cell_of_row M7.out.r10 0).trans (show _ = some (.slice none 0 0) from rfl)
                     have z1 := (cell_of_row M7.out.r10 1).trans (show _ = some (.int .i64 0) from rfl)
                     have z2 := (cell_of_row M7.out.r10 2).trans (show _ = some (.int .i64 0) from rfl)
                     have z3 := (cell_of_row M7.out.r10 3).trans (show _ = some (.int .i64 0) from rfl)
                     have y0 := free_of_row M7.out.r10 0
                     have y1 := free_of_row M7.out.r10 1
                     have y2 := free_of_row M7.out.r10 2
                     have y3 := free_of_row M7.out.r10 3
                     have v0 := (cell_of_row M7.out.r11 0).trans (show _ = some (.slice none 0 0) from rfl)
                     have v1 := (cell_of_row M7.out.r11 1).trans (show _ = some (.slice none 0 0) from rfl)
                     have v2 := (cell_of_row M7.out.r11 2).trans (show _ = some (.slice none 0 0) from rfl)
                     have v3 := (cell_of_row M7.out.r11 3).trans (show _ = some (.slice none 0 0) from rfl)
                     have q0 := free_of_row M7.out.r11 0
                     have q1 := free_of_row M7.out.r11 1
                     have q2 := free_of_row M7.out.r11 2
                     have q3 := free_of_row M7.out.r11 3
                     clear hd7 hk9))
                all_goals
                  go_wp2_with fail
                  have F := M6.out.fin0 K7.out HD7.out rfl
                  refine bodyPost_cell2 rfl ⟨w.heap.size + 2, 0, none⟩ ⟨w.heap.size + 3, 0, none⟩ _ _ rfl rfl (load_row F.1 Tryz.underlying40 rfl (by kernel_rfl)) (load_row F.2.1 Tryz.underlying72 rfl (by kernel_rfl)) rfl ?_
                  rw [HM3.out]
                  exact ⟨b7, c7, _, rfl, F.2.2.1, F.2.2.2.1, F.2.2.2.2.1, F.2.2.2.2.2⟩
end
end Go.Proofs.YticbnckikkdknaaGreatDoor
