/- MarkRoom, plainly: each object is a place; what is marked is what is led to. Conditions: as each theorem states them. -/
import Derived.Test.YticbnckikkdknaaGreatDoorPr23
namespace Go.Proofs.YticbnckikkdknaaGreatDoor
set_option linter.unusedVariables false
set_option linter.unusedSimpArgs false
set_option maxRecDepth 100000
open Go.RowKit
section
variable {T n : Nat}
theorem makes_good2 (hT : 1 ≤ T) (hT4 : T ≤ 4) (hn : n ≤ 12) (l : List Th) : ∀ k, ∃ O, Cel T n (makesN T n l k).1.H (makesN T n l k).1.Rs O ∧ Pls O (makesN T n l k).2 ∧ (makesN T n l k).2.length = k ∧ ∀ y : Nat, (O y).isSome = true → (y : Int) ∈ (makesN T n l k).2
  | 0 => ⟨_, cel_begin hT hn, fun v hv => absurd hv (by simp [makesN]), rfl, fun y hy => by cases hy⟩
  | k + 1 => by
    obtain ⟨O, h1, h2, h3, h4⟩ := makes_good2 hT hT4 hn l k
    rw [makesN]
    generalize makesN T n l k = y at *
    generalize l.getD k Th0 = x
    have hi : x.ow % T < T := Nat.mod_lt _ (by omega)
    have hsz : szO x ≤ 95 := by unfold szO; omega
    have hrf : rfO x ≤ szO x := by
      have := Nat.mod_lt x.rf (show 0 < x.sz % 40 + 1 by omega)
      unfold rfO szO; omega
    unfold makeS madeS
    rcases h1.make (wk := y.1.wk (x.ow % T)) hi (by omega) (by omega) hrf hsz with ⟨e, h⟩ | ⟨a, e, hO, h⟩
    · refine ⟨O, h, fun v hv => ?_, by simp [h3], fun z hz => List.mem_append_left _ (h4 z hz)⟩
      simp only [List.mem_append, List.mem_singleton] at hv
      rcases hv with hv | rfl
      · exact h2 v hv
      · rw [e]; exact .inl rfl
    · refine ⟨_, h, fun v hv => ?_, by simp [h3], fun z hz => ?_⟩
      · simp only [List.mem_append, List.mem_singleton] at hv
        rcases hv with hv | rfl
        · rcases h2 v hv with q | ⟨z, q1, q2⟩
          · exact .inl q
          · refine .inr ⟨z, q1, ?_⟩
            by_cases ez : z = a
            · subst ez; rw [hO] at q2; cases q2
            · rw [setOb_ne ez]; exact q2
        · rw [e]; exact .inr ⟨a, rfl, by rw [setOb_same]; rfl⟩
      · by_cases ez : z = a
        · subst ez
          refine List.mem_append_right _ ?_
          rw [e]; simp
        · rw [setOb_ne ez] at hz
          exact List.mem_append_left _ (h4 z hz)
theorem heap_good2 (hT : 1 ≤ T) (hT4 : T ≤ 4) (hn : n ≤ 12) (l : List Th) : ∃ O V F, Gd T n (kidsN (makesN T n l l.length).2 l (makesN T n l l.length).1.H l.length) (makesN T n l l.length).1.Rs O V F ∧ Pls O (makesN T n l l.length).2 ∧ ∀ y : Nat, (O y).isSome = true → (y : Int) ∈ (makesN T n l l.length).2 := by
  obtain ⟨O, h1, h2, h3, h4⟩ := makes_good2 hT hT4 hn l l.length
  obtain ⟨V, F, h⟩ := (Gd.of h1).kids (by omega) h2 l l.length (by omega)
  exact ⟨O, V, F, h, h2, h4⟩
end
/-- What is led to by the first i things that are marked. -/
def LdP (G : Gp) (M : Nat → Bool) (R : List Nat) (P : List Int) (i : Nat) (z : Nat) : Prop := z ∈ R ∨ ∃ j, j < i ∧ ∃ x : Nat, P.getD j 0 = x ∧ x ≠ 0 ∧ M x = true ∧ z ∈ G.ref x
section
variable {T n : Nat} {H : List Int} {Rs : Nat → Nat → List Int} {O : Obs} {V : Nat → Int} {F : Nat → Nat → Int} {o : Nat} {tel : Bool} {M : Nat → Bool} {R : List Nat} {P : List Int}
theorem LdP.skip {G : Gp} {i : Nat} (h : P.getD i 0 = 0 ∨ ∃ x : Nat, P.getD i 0 = x ∧ M x = false) (z : Nat) : LdP G M R P (i + 1) z ↔ LdP G M R P i z := by
  unfold LdP
  constructor
  · rintro (h1 | ⟨j, hj, x, e, h0, hM, hz⟩)
    · exact .inl h1
    · by_cases ej : j = i
      · subst ej
        rcases h with h | ⟨x', e', hM'⟩
        · rw [h] at e; omega
        · have : x = x' := by exact_mod_cast e.symm.trans e'
          rw [this, hM'] at hM; cases hM
      · exact .inr ⟨j, by omega, x, e, h0, hM, hz⟩
  · rintro (h1 | ⟨j, hj, r⟩)
    · exact .inl h1
    · exact .inr ⟨j, by omega, r⟩
theorem LdP.hit {G : Gp} {i x : Nat} (e : P.getD i 0 = x) (h0 : x ≠ 0) (hM : M x = true) (z : Nat) : LdP G M R P (i + 1) z ↔ (LdP G M R P i z ∨ z ∈ G.ref x) := by
  unfold LdP
  constructor
  · rintro (h1 | ⟨j, hj, x', e', h0', hM', hz⟩)
    · exact .inl (.inl h1)
    · by_cases ej : j = i
      · subst ej
        have : x' = x := by exact_mod_cast e'.symm.trans e
        rw [this] at hz
        exact .inr hz
      · exact .inl (.inr ⟨j, by omega, x', e', h0', hM', hz⟩)
  · rintro ((h1 | ⟨j, hj, r⟩) | hz)
    · exact .inl h1
    · exact .inr ⟨j, by omega, r⟩
    · exact .inr ⟨i, by omega, x, e, h0, hM, hz⟩
/-- What is marked is what is led to, and the owner's. -/
theorem led_mark (hG : Gd T n H Rs O V F) (hP : ∀ y : Nat, (O y).isSome = true → (y : Int) ∈ P) (hM : ∀ x, M x = true ↔ Rc (gpOf O H o tel) R x) (hd0 : (O 0).isSome = false) {x : Nat} (h0 : x ≠ 0) : M x = true ↔ (LdP (gpOf O H o tel) M R P P.length x ∧ (gpOf O H o tel).own x = true) := by
  constructor
  · intro h
    have hr := (hM x).1 h
    refine ⟨?_, hr.own⟩
    cases hr with
    | root x hx h0 ho => exact .inl hx
    | step y x hy hxy h0 ho =>
      have hm := hP y hy.some
      obtain ⟨j, hj, e⟩ := List.mem_iff_getElem.1 hm
      refine .inr ⟨j, hj, y, ?_, ?_, (hM y).2 hy, hxy⟩
      · rw [List.getD_eq_getElem?_getD, List.getElem?_eq_getElem hj]; exact e
      · intro e0
        have := hy.some
        rw [e0, hd0] at this; cases this
  · rintro ⟨h1 | ⟨j, hj, y, e, hy0, hMy, hz⟩, ho⟩
    · exact (hM x).2 (.root x h1 h0 ho)
    · exact (hM x).2 (.step y x ((hM y).1 hMy) hz h0 ho)
end
section
variable {B T n sp hb : Nat} {P : List Int} {W W' : World} {S : List Nat}
/-- Another heap's words turn. -/
theorem Hsf.keep2 (h : Hsf B T n sp hb P W) (k : Kp S W W') (hS : ∀ g ∈ S, (∃ a, W.heap[g]? = some (.cells a 99 (0, 0))) ∨ (∃ a, W.heap[g]? = some (.cells a 57 (0, 0))) ∨ W.heap.size ≤ g) (hg : 0 ∉ S) (hty : ∃ a b, W'.heap[B + 1]? = some (.cells a 99 (0, 0)) ∧ W'.heap[B]? = some (.cells b 57 (0, 0))) : Hsf B T n sp hb P W' := by
  have hne : ∀ {g : Nat} {cs : Array Value} {U : TypeId}, W.heap[g]? = some (.cells cs U (0, 0)) → U ≠ 99 → U ≠ 57 → g ∉ S := fun hg h1 h2 e => by
    rcases hS _ e with ⟨a, e⟩ | ⟨a, e⟩ | e
    · rw [e] at hg; simp at hg; exact h1 hg.2.symm
    · rw [e] at hg; simp at hg; exact h2 hg.2.symm
    · have := lt_of_block hg; omega
  obtain ⟨f, f1, f2⟩ := h.st
  have hb' := k.row (hne h.hx (by decide) (by decide)) h.hx
  have hc : (W'.cell? ⟨hb, 1, none⟩).getD undef = (W.cell? ⟨hb, 1, none⟩).getD undef := by rw [cell_of_row hb']; rfl
  refine ⟨⟨f, k.row (hne f1 (by decide) (by decide)) f1, f2⟩, by rw [hc]; exact hb', ?_, tab_keep h.tab k hg, h.gn, hty⟩
  rw [hc]
  rcases h.pv with q | ⟨g, cap, cur, e, g1, g2⟩
  · exact .inl q
  · exact .inr ⟨g, cap, cur, e, k.row (hne g1 (by decide) (by decide)) g1, g2⟩
end
/-- A row's blocks lie no later. -/
theorem rw_low {T0 : TypeId} {sz base base' m : Nat} {w : World} {v : Value} {xs : List Value} (h : Gx.Rw T0 sz base w v m xs) (hb : base' ≤ base) : Gx.Rw T0 sz base' w v m xs := by
  rcases h.own.2 with ⟨e, h0⟩ | ⟨b, c', cur, he, hge, r⟩
  · exact ⟨h.own.1, .inl ⟨e, h0⟩⟩
  · exact ⟨h.own.1, .inr ⟨b, c', cur, he, Nat.le_trans hb hge, r⟩⟩
/-- The places of things, by their numbers. -/
def plR (P : List Int) (fr : List Nat) : List Nat := fr.map fun k => (atP P k).toNat
section
variable {T n o rm B t0 bx mb g M : Nat} {H : List Int} {Rs : Nat → Nat → List Int} {O : Obs} {V : Nat → Int} {F : Nat → Nat → Int} {P : List Int} {W4 wq : World} {fr : List Nat} {ao5 : Option Addr} {c5 : Nat}
theorem plR_len : (plR P fr).length = fr.length := by simp [plR]
theorem plR_ok (hPl : Pls O P) : ∀ y ∈ plR P fr, y = 0 ∨ (O y).isSome = true := fun y hy => by
  unfold plR at hy
  rw [List.mem_map] at hy
  obtain ⟨k, _, rfl⟩ := hy
  rcases atP_ok hPl k with e | ⟨z, e, hz⟩
  · left; rw [e]; rfl
  · right; rw [e]; exact hz
theorem plR_cells (hG : Gd T n H Rs O V F) (hPl : Pls O P) (hM : M = fr.length) {base : Nat} (hrow : Gx.Rw 3 1 base wq (.slice ao5 M c5) M (plV P fr M)) : ∀ j, j < (plR P fr).length → ∃ g, ao5 = some ⟨g, 0, none⟩ ∧ base ≤ g ∧ wq.cell? ⟨g, j, none⟩ = some (.int .i64 ((plR P fr).getD j 0)) := fun j hj => by
  rw [plR_len, ← hM] at hj
  obtain ⟨b, c, e, _, hcl⟩ := hrow.at (by omega) (by decide)
  have hblk := (hrow.block b (by rw [e, Gx.blk_some]; simp)).1
  have e1 : ao5 = some ⟨b, 0, none⟩ := by cases e; rfl
  refine ⟨b, e1, hblk, ?_⟩
  rw [hcl j (by omega)]
  have hjf : j < fr.length := by rw [← hM]; exact hj
  have hat := atP_bd hG hPl (fr.getD j 0)
  have e2 : (plR P fr).getD j 0 = (atP P (fr.getD j 0)).toNat := by
    unfold plR
    rw [List.getD_eq_getElem?_getD, List.getElem?_map, List.getD_eq_getElem?_getD, List.getElem?_eq_getElem hjf]; rfl
  rw [e2, Int.toNat_of_nonneg hat.1]
  simp [plV, hj]
set_option maxHeartbeats 1000000 in
/-- A heap is marked, told by a map. -/
theorem room_mark (hG : Gd T n H Rs O V F) (hPl : Pls O P) (hn2 : n ≤ 12) (hT4 : T ≤ 4) (hoT : o < T) (hrm1 : 1 ≤ rm) (hrm2 : rm ≤ 64) (hM : M = fr.length) (hM60 : M ≤ 60) (ht : t0 ≤ 200000) (hw : Hw T 0 n (B + 1) B H t0 W4) (htab : Cl.Tab W4) (hr1 : 0 ≠ B + 1) (hr2 : 0 ≠ B) (hr3 : 0 < mb) (tl4 : TLm bx mb (fun _ => false) W4) (hlt : B + 1 < mb ∧ mb < bx)
    (hen : ∀ (x : Value) (w : World), (callFunc g (#[x] ++ #[.pointer (some ⟨bx, 0, none⟩)])).run Tryz.prog w = .ok (.enter g (#[x] ++ #[.pointer (some ⟨bx, 0, none⟩)])) w)
    (hc : ∀ tl w (a : Nat), TLm bx mb tl w → a ≤ 5000 → Calls Tryz.prog g (#[.int .i64 a] ++ #[.pointer (some ⟨bx, 0, none⟩)]) w fun e w' => e = .returned (.tuple #[]) ∧ TLm bx mb (fun z => tl z || decide (z = a)) w' ∧ Kp [bx, mb] w w')
    (kq : Kp [] W4 wq) (hrow : Gx.Rw 3 1 W4.heap.size wq (.slice ao5 M c5) M (plV P fr M)) :
    Calls Tryz.prog 10 #[.agg #[.iface 31 (.pointer (some ⟨B + 1, 0, none⟩)), .int .i64 T, .int .i64 0, .int .i64 n, .int .u8 o, .int .i64 rm, .func (.func g) #[] #[.pointer (some ⟨bx, 0, none⟩)]], .slice ao5 M c5] wq fun e w' => e = .returned (.int .i64 0) ∧ (∃ (X : Mkg) (t' : Nat), (∀ x, X.M x = true ↔ Rc (gpOf O H o true) (plR P fr) x) ∧ (∀ y, X.tl y = true ↔ Tld (gpOf O H o true) (plR P fr) y) ∧ Hw T 0 n (B + 1) B (markL H X.M) t' w' ∧ TLm bx mb X.tl w') ∧ Kp [B + 1, B, bx, mb] W4 w' := by
  obtain ⟨a1, a2, e1, e2⟩ := hw.ty
  have l1 := lt_of_block e1
  have l2 := lt_of_block e2
  have l3 := lt_of_block tl4.1
  have lq := kq.size
  have hlen := hG.hp.len
  have hmu := mu0_le (gpOf O H o true) H.length
  have hmn : 4900 * n * (muM (gpOf O H o true) H.length X0m + 1) ≤ 4900 * 12 * 1000 := Nat.mul_le_mul (by omega) (by omega)
  have hm := mark_is (o := o) (room := rm) (tel := true) (R := plR P fr) (ao := ao5) (cap := c5) (gf := .func (.func g) #[] #[.pointer (some ⟨bx, 0, none⟩)]) (Sg := [bx, mb]) (TL := TLm bx mb) hG (by omega) (by omega) hoT hrm1 hrm2 (hw.on kq) (tab_keep htab kq (by simp)) (by
      simp only [List.mem_cons, List.not_mem_nil, or_false, not_or]
      exact ⟨hr1, hr2, by omega, by omega⟩) (by intro x hx; simp at hx; rcases hx with rfl | rfl | rfl | rfl <;> omega)
    (fun q ro h1 h2 => map_told bx mb (by omega) (by omega) hen hc) (tl4.keep kq (by simp) (by simp)) (plR_ok hPl) (by
      intro j hj
      obtain ⟨g, e, h1, h2⟩ := plR_cells hG hPl hM hrow j hj
      exact ⟨g, 0, e, by simp; omega, block_lt_of_cell h2, by rw [Nat.zero_add]; exact h2⟩) (by rw [plR_len, ← hM]; omega) (by rw [plR_len, ← hM]; omega)
  rw [plR_len, ← hM] at hm
  refine hm.mono ?_
  rintro e w' ⟨rfl, X, t', h1, h2, h3, h4, h5⟩
  exact ⟨rfl, ⟨X, t', h1, fun y => h2 rfl y, h3, h4⟩, (kq.mono (by simp)).trans h5⟩
end
section
variable {T n B sp hb : Nat} {P : List Int} {W : World}
set_option maxHeartbeats 1000000 in
theorem places_sf (h : Hsf B T n sp hb P W) (hP : P.length ≤ 200) {ao : Option Addr} {cap : Nat} {l : List Nat} (hl : l.length ≤ 60) (hN : Nms W ao l) :
    Calls Tryz.prog 11 #[.pointer (some ⟨hb, 0, none⟩), .slice ao l.length cap] W fun e w' => ∃ ao' c, e = .returned (.slice ao' l.length c) ∧ Gx.Rw 3 1 W.heap.size w' (.slice ao' l.length c) l.length (plV P l l.length) ∧ Kp [] W w' := by
  have HAt := Lib.hid (fun (wq : World) (kq : Kp [] W wq) (m : Nat) (hm : m ≤ 255) => (by
    have h2 : Hsf B T n sp hb P wq := h.keep kq (by simp) (by
      obtain ⟨a, b, e1, e2⟩ := h.ty
      exact ⟨a, b, kq.row (by simp) e1, kq.row (by simp) e2⟩)
    exact at_any h2.hx h2.pv hP m hm _ rfl : Calls Tryz.prog 24 #[.pointer (some ⟨hb, 0, none⟩), .int .u8 m] wq fun e w' => e = .returned (.int .i64 (atP P m)) ∧ wq = w'))
  have HN := Lib.hid hN
  obtain ⟨M, hM⟩ : ∃ M, M = l.length := ⟨_, rfl⟩
  rw [← hM] at hl ⊢
  have HM := Lib.hid hM
  clear h hN hM hP
  go_enter Tryz.func11, Tryz.ntmps11
  go_wp2_with fail
  go_loopg [5, 6] M (fun gg v5 v6 wr => ∃ q : Nat, ∃ ao c, q + gg = M ∧ v6 = .int .i64 q ∧ v5 = .slice ao q c ∧ Hid (Kp [] W wr ∧ Gx.Rw 3 1 W.heap.size wr (.slice ao q c) q (plV P l q)))
  case atStart => exact ⟨0, none, 0, by omega, rfl, rfl, Lib.hid ⟨Kp.refl _ _, Gx.Rw.nil _ _ _ _⟩⟩
  case round =>
    obtain ⟨q, ao2, cq, hq, rfl, rfl, HR⟩ := hrel
    by_cases hlt : q < M
    · obtain ⟨g, o', hao, hc, hb255⟩ := HN.out q (by rw [← HM.out]; exact hlt)
      have hs := plV_succ P l q
      have cc := kp_cell HR.out.1 (by simp) hc
      obtain ⟨y, hy⟩ : ∃ y, l.getD q 0 = y := ⟨_, rfl⟩
      rw [hy] at cc hs hb255
      have HA := Lib.hid (HAt.out wr HR.out.1 y hb255)
      obtain ⟨z, hz⟩ : ∃ z, atP P y = z := ⟨_, rfl⟩
      rw [hz] at HA hs
      obtain ⟨ao8, cap8, w8, hrun8, hrw8, hk8⟩ := app_oneI HR.out.2 HR.out.1.size z (by omega) 46
      have HRun := Lib.hid hrun8
      have F8 : Hid (Kp [] W w8 ∧ Gx.Rw 3 1 W.heap.size w8 (.slice (some ⟨ao8, 0, none⟩) (q + 1) cap8) (q + 1) (plV P l (q + 1))) := Lib.hid ⟨HR.out.2.old rfl HR.out.1 hk8, by rw [hs]; exact hrw8⟩
      subst hao
      clear hrun8 hrw8 hk8 hs HR hc hy hz
      go_wp2_with fail
      refine HA.out.mono ?_
      rintro e w3 ⟨rfl, rfl⟩
      go_wp2_with (at_builtin; refine Gx.wpList_append_eq rfl (.tmp 13) (.tmp 20) 46 rfl _ _ _ rfl rfl HRun.out ?_)
      go_roundg (M - (q + 1))
      case rel => exact ⟨q + 1, _, _, by omega, by go_num, rfl, F8⟩
      case measure => omega
    · obtain rfl : q = M := by omega
      have F := Lib.hid HR.out
      clear HR
      go_wp2_with fail
      go_ret
      exact ⟨_, _, rfl, F.out.2, F.out.1⟩
end
set_option maxHeartbeats 2000000 in
/-- Too great: the law looks at its wake. -/
theorem mroom_skip (HMd : Hid CMade) (w : World) (T0 : Cl.Tab w) (x y o a b : Int) (hx : 0 ≤ x ∧ x ≤ 255) (hy : 0 ≤ y ∧ y ≤ 255) (ao ao2 : Option Addr) (m cap m2 cap2 : Nat) (hm : m ≤ maxLen) (hm2 : m2 ≤ maxLen) (hs : x < 1 ∨ 12 < x ∨ y < 1 ∨ 4 < y ∨ 60 < m ∨ 60 < m2 ∨ a < 1 ∨ 64 < a ∨ b < 1 ∨ 64 < b) :
    Calls Tryz.prog 3 #[.int .u8 x, .int .u8 y, .slice ao m cap, .int .u8 o, .int .u8 a, .int .u8 b, .slice ao2 m2 cap2] w fun e w' => e = .returned (.bool true) ∧ Kp [] w w' := by
  have HWk := Lib.hid (wakes18 HMd w T0)
  by_cases h1 : x < 1 ∨ 12 < x ∨ y < 1 ∨ 4 < y ∨ 60 < m
  · have HGr := Lib.hid (great_is x y hx hy ao m cap w true (by simp [h1]))
    clear h1 hs
    go_enter Tryz.func3, Tryz.ntmps3
    go_wp2_with fail
    refine HGr.out.mono ?_
    rintro e w1 ⟨rfl, rfl⟩
    go_wp2_with fail
    refine HWk.out.mono ?_
    rintro e w2 ⟨rfl, k2⟩
    go_wp2_with fail
    go_ret
    exact ⟨rfl, k2⟩
  · have HGr := Lib.hid (great_is x y hx hy ao m cap w false (by simp [h1]))
    by_cases h2 : 60 < m2
    · have h3 : (60 : Int) < (m2 : Int) := by omega
      clear h1 hs
      go_enter Tryz.func3, Tryz.ntmps3
      go_wp2_with fail
      refine HGr.out.mono ?_
      rintro e w1 ⟨rfl, rfl⟩
      go_wp2_with fail
      refine HWk.out.mono ?_
      rintro e w2 ⟨rfl, k2⟩
      go_wp2_with fail
      go_ret
      exact ⟨rfl, k2⟩
    · have h3 : ¬ (60 : Int) < (m2 : Int) := by omega
      by_cases h4 : a < 1
      · clear h1 hs
        go_enter Tryz.func3, Tryz.ntmps3
        go_wp2_with fail
        refine HGr.out.mono ?_
        rintro e w1 ⟨rfl, rfl⟩
        go_wp2_with fail
        refine HWk.out.mono ?_
        rintro e w2 ⟨rfl, k2⟩
        go_wp2_with fail
        go_ret
        exact ⟨rfl, k2⟩
      · by_cases h5 : 64 < a
        · clear h1 hs
          go_enter Tryz.func3, Tryz.ntmps3
          go_wp2_with fail
          refine HGr.out.mono ?_
          rintro e w1 ⟨rfl, rfl⟩
          go_wp2_with fail
          refine HWk.out.mono ?_
          rintro e w2 ⟨rfl, k2⟩
          go_wp2_with fail
          go_ret
          exact ⟨rfl, k2⟩
        · by_cases h6 : b < 1
          · clear h1 hs
            go_enter Tryz.func3, Tryz.ntmps3
            go_wp2_with fail
            refine HGr.out.mono ?_
            rintro e w1 ⟨rfl, rfl⟩
            go_wp2_with fail
            refine HWk.out.mono ?_
            rintro e w2 ⟨rfl, k2⟩
            go_wp2_with fail
            go_ret
            exact ⟨rfl, k2⟩
          · have h7 : 64 < b := by omega
            clear h1 hs
            go_enter Tryz.func3, Tryz.ntmps3
            go_wp2_with fail
            refine HGr.out.mono ?_
            rintro e w1 ⟨rfl, rfl⟩
            go_wp2_with fail
            refine HWk.out.mono ?_
            rintro e w2 ⟨rfl, k2⟩
            go_wp2_with fail
            go_ret
            exact ⟨rfl, k2⟩

end Go.Proofs.YticbnckikkdknaaGreatDoor
