/- Law 18: what stands of a heap whose words turn; the known heap, marked. Law 18: the known heap, marked: its wake. Conditions: as each theorem states them. -/
import Derived.Test.YticbnckikkdknaaGreatDoorPr18
namespace Go.Proofs.YticbnckikkdknaaGreatDoor
set_option linter.unusedVariables false
set_option linter.unusedSimpArgs false
set_option maxRecDepth 100000
open Go.RowKit

/-- Made, for whatever heap. -/
def CMade : Prop := ∀ (w : World) (T n : Nat), Cl.Tab w → 1 ≤ n → n ≤ 12 → 1 ≤ T → T ≤ 4 → ∀ (ao : Option Addr) (cap : Nat) (l : List Th), l.length ≤ 60 → Tgs w ao l →
    Calls Tryz.prog 8 #[.int .u8 n, .int .u8 T, .slice ao l.length cap] w fun e w' => ∃ sp hb qs t, t ≤ 100000 ∧ e = .returned (.tuple #[.pointer (some ⟨hb, 0, none⟩), .bool true]) ∧ Hm w.heap.size T n sp hb qs ({ (makesN T n l l.length).1 with H := kidsN (makesN T n l l.length).2 l (makesN T n l l.length).1.H l.length } : As) (makesN T n l l.length).2 t w w'
/-- What a heap's boxes say, whatever its words are. -/
structure Hsf (B T n sp hb : Nat) (P : List Int) (W : World) : Prop where
  st : ∃ f, S13 W sp f ∧ f 0 = .pointer (some ⟨B + 1, 0, none⟩) ∧ f 1 = .int .i64 T ∧ f 2 = .int .i64 0 ∧ f 3 = .int .i64 n
  hx : W.heap[hb]? = some (.cells #[.pointer (some ⟨sp, 0, none⟩), (W.cell? ⟨hb, 1, none⟩).getD undef] 48 (0, 0))
  pv : Li.Rw W ((W.cell? ⟨hb, 1, none⟩).getD undef) P
  tab : Cl.Tab W
  gn : 0 ≠ B + 1 ∧ 0 ≠ B
  ty : ∃ a b, W.heap[B + 1]? = some (.cells a 99 (0, 0)) ∧ W.heap[B]? = some (.cells b 57 (0, 0))
section
variable {B T n sp hb t : Nat} {qs : Nat → Nat} {s : As} {P : List Int} {w W W' : World}
theorem Hm.stat (h : Hm B T n sp hb qs s P t w W) (hT : 0 < T) : Hsf B T n sp hb P W := by
  obtain ⟨v, col, pv, hA, hLo, hbx, hpv, hpc, hcb⟩ := h.ex
  obtain ⟨a1, a2, a3, e1, e2, e3⟩ := (hA.mws.one 0 hT).types
  have hc : (W.cell? ⟨hb, 1, none⟩).getD undef = pv := by rw [cell_of_row hbx]; rfl
  exact ⟨⟨v.f, hA.st, hA.f0, hA.f1, hA.f2, hA.f3⟩, by rw [hc]; exact hbx, by rw [hc]; exact hpv, (hA.mws.one 0 hT).tab, ⟨(hA.mws.one 0 hT).gn.1, (hA.mws.one 0 hT).gn.2.1⟩, _, _, e1, e2⟩
theorem Hsf.keep (h : Hsf B T n sp hb P W) {S : List Nat} (k : Kp S W W') (hS : ∀ g ∈ S, g = B + 1 ∨ g = B ∨ W.heap.size ≤ g) (hty : ∃ a b, W'.heap[B + 1]? = some (.cells a 99 (0, 0)) ∧ W'.heap[B]? = some (.cells b 57 (0, 0))) : Hsf B T n sp hb P W' := by
  obtain ⟨a, b, e1, e2⟩ := h.ty
  have hne : ∀ {g : Nat} {cs : Array Value} {U : TypeId}, W.heap[g]? = some (.cells cs U (0, 0)) → U ≠ 99 → U ≠ 57 → g ∉ S := fun hg h1 h2 e => by
    rcases hS _ e with e | e | e
    · rw [e, e1] at hg; simp at hg; exact h1 hg.2.symm
    · rw [e, e2] at hg; simp at hg; exact h2 hg.2.symm
    · have := lt_of_block hg; omega
  obtain ⟨f, f1, f2⟩ := h.st
  have hb' := k.row (hne h.hx (by decide) (by decide)) h.hx
  have hc : (W'.cell? ⟨hb, 1, none⟩).getD undef = (W.cell? ⟨hb, 1, none⟩).getD undef := by rw [cell_of_row hb']; rfl
  refine ⟨⟨f, k.row (hne f1 (by decide) (by decide)) f1, f2⟩, by rw [hc]; exact hb', ?_, ?_, h.gn, hty⟩
  · rw [hc]
    rcases h.pv with q | ⟨g, cap, cur, e, g1, g2⟩
    · exact .inl q
    · exact .inr ⟨g, cap, cur, e, k.row (hne g1 (by decide) (by decide)) g1, g2⟩
  · have hrn : 0 ∉ S := fun e => by
      rcases hS _ e with e | e | e
      · exact h.gn.1 e
      · exact h.gn.2 e
      · have := block_lt_of_cell h.tab.c0; omega
    exact tab_keep h.tab k hrn
/-- What the known heap is, plainly. -/
theorem kn_all : ∃ O V F, Gd 1 4 knH (makesN 1 4 kn 4).1.Rs O V F ∧ Pls O knP := by
  have := heap_good (T := 1) (n := 4) (by decide) (by decide) (by decide) kn
  obtain ⟨O, V, F, h, hp⟩ := this
  refine ⟨O, V, F, ?_, by rw [← kn_P]; exact hp⟩
  have e : knH = kidsN (makesN 1 4 kn 4).2 kn (makesN 1 4 kn 4).1.H 4 := by rw [kn_P]; rfl
  rw [e]; exact h
end
section
variable {O : Obs} {tel : Bool}
theorem kn_obj (hp : Pls O knP) : (O 8).isSome = true ∧ (O 40).isSome = true ∧ (O 42).isSome = true ∧ (O 44).isSome = true := by
  have key : ∀ x : Nat, (x : Int) ∈ knP → x ≠ 0 → (O x).isSome = true := fun x hx h0 => by
    rcases hp _ hx with e | ⟨y, e, hy⟩
    · omega
    · have : x = y := by exact_mod_cast e
      rw [this]; exact hy
  exact ⟨key 8 (by decide) (by decide), key 40 (by decide) (by decide), key 42 (by decide) (by decide), key 44 (by decide) (by decide)⟩
theorem kn_graph (hp : Pls O knP) : ((gpOf O knH 0 tel).own 8 = true ∧ (gpOf O knH 0 tel).own 40 = true ∧ (gpOf O knH 0 tel).own 42 = true ∧ (gpOf O knH 0 tel).own 44 = false) ∧ ((gpOf O knH 0 tel).glb 8 = false ∧ (gpOf O knH 0 tel).glb 40 = false ∧ (gpOf O knH 0 tel).glb 42 = false ∧ (gpOf O knH 0 tel).glb 44 = true) ∧ ((gpOf O knH 0 tel).ref 8 = [40, 42] ∧ (gpOf O knH 0 tel).ref 40 = [] ∧ (gpOf O knH 0 tel).ref 42 = [44]) := by
  obtain ⟨o1, o2, o3, o4⟩ := kn_obj hp
  obtain ⟨v1, v2, v3, v4, v5, v6, v7⟩ := kn_v
  refine ⟨⟨?_, ?_, ?_, ?_⟩, ⟨?_, ?_, ?_, ?_⟩, ?_, ?_, ?_⟩
  · simp only [gpOf, o1, v1]; decide
  · simp only [gpOf, o2, v4]; decide
  · simp only [gpOf, o3, v5]; decide
  · simp only [gpOf, o4, v7]; decide
  · simp only [gpOf, o1, v1]; decide
  · simp only [gpOf, o2, v4]; decide
  · simp only [gpOf, o3, v5]; decide
  · simp only [gpOf, o4, v7]; decide
  · have e : (gpOf O knH 0 tel).ref 8 = (List.range (knH.getD 8 0 / 2048 % 128).toNat).map fun k => (knH.getD (8 + 1 + k) 0).toNat := rfl
    rw [e]
    rw [v1]
    show [(knH.getD (8 + 1 + 0) 0).toNat, (knH.getD (8 + 1 + 1) 0).toNat] = _
    rw [v2, v3]; rfl
  · have e : (gpOf O knH 0 tel).ref 40 = (List.range (knH.getD 40 0 / 2048 % 128).toNat).map fun k => (knH.getD (40 + 1 + k) 0).toNat := rfl
    rw [e]
    rw [v4]; rfl
  · have e : (gpOf O knH 0 tel).ref 42 = (List.range (knH.getD 42 0 / 2048 % 128).toNat).map fun k => (knH.getD (42 + 1 + k) 0).toNat := rfl
    rw [e]
    rw [v5]
    show [(knH.getD (42 + 1 + 0) 0).toNat] = _
    rw [v6]; rfl
theorem kn_rc (hp : Pls O knP) {R : List Nat} (hR : 8 ∈ R) (hR2 : ∀ x ∈ R, x = 0 ∨ x = 8 ∨ x = 44) (x : Nat) : Rc (gpOf O knH 0 tel) R x ↔ (x = 8 ∨ x = 40 ∨ x = 42) := by
  obtain ⟨⟨a1, a2, a3, a4⟩, ⟨b1, b2, b3, b4⟩, c1, c2, c3⟩ := kn_graph (tel := tel) hp
  constructor
  · intro h
    induction h with
    | root x hx h0 ho =>
      rcases hR2 x hx with e | e | e
      · exact absurd e h0
      · exact .inl e
      · rw [e, a4] at ho; cases ho
    | step x y hx hy h0 ho ih =>
      rcases ih with e | e | e
      · rw [e, c1] at hy; simp at hy; omega
      · rw [e, c2] at hy; simp at hy
      · rw [e, c3] at hy; simp at hy
        rw [hy, a4] at ho; cases ho
  · have r8 : Rc (gpOf O knH 0 tel) R 8 := .root 8 hR (by decide) a1
    rintro (rfl | rfl | rfl)
    · exact r8
    · exact .step 8 40 r8 (by rw [c1]; simp) (by decide) a2
    · exact .step 8 42 r8 (by rw [c1]; simp) (by decide) a3
theorem kn_tld (hp : Pls O knP) (y : Nat) : Tld (gpOf O knH 0 tel) [8] y ↔ y = 44 := by
  obtain ⟨⟨a1, a2, a3, a4⟩, ⟨b1, b2, b3, b4⟩, c1, c2, c3⟩ := kn_graph (tel := tel) hp
  constructor
  · rintro ⟨hg, h0, hm | ⟨x, hx, hy⟩⟩
    · simp at hm; rw [hm, b1] at hg; cases hg
    · rcases (kn_rc hp (by simp) (by simp) x).1 hx with e | e | e
      · rw [e, c1] at hy
        simp at hy
        rcases hy with e | e
        · rw [e, b2] at hg; cases hg
        · rw [e, b3] at hg; cases hg
      · rw [e, c2] at hy; simp at hy
      · rw [e, c3] at hy; simpa using hy
  · rintro rfl
    exact ⟨b4, by decide, .inr ⟨42, (kn_rc hp (by simp) (by simp) 42).2 (by simp), by rw [c3]; simp⟩⟩
end
end Go.Proofs.YticbnckikkdknaaGreatDoor

namespace Go.Proofs.YticbnckikkdknaaGreatDoor
set_option linter.unusedVariables false
set_option linter.unusedSimpArgs false
set_option maxRecDepth 100000
open Go.RowKit

section
variable {B T n sp hb t : Nat} {qs : Nat → Nat} {s : As} {P : List Int} {w W W' : World}
/-- What a heap gives to a marker. -/
theorem Hm.work (h : Hm B T n sp hb qs s P t w W) (hT : 0 < T) : (∃ t0, t0 ≤ t ∧ Hw T 0 n (B + 1) B s.H t0 W) ∧ Cl.Tab W ∧ 0 ≠ B + 1 ∧ 0 ≠ B ∧ B + 1 < W.heap.size ∧ B < W.heap.size ∧ s.H.length = 3 + T + 33 * n := by
  obtain ⟨v, col, pv, hA, hLo, hbx, hpv, hpc, hcb⟩ := h.ex
  have h1 := hA.mws.one 0 hT
  obtain ⟨a1, a2, a3, e1, e2, e3⟩ := h1.types
  exact ⟨h1.hw, h1.tab, h1.gn.1, h1.gn.2.1, lt_of_block e1, lt_of_block e2, hA.fit.len⟩
theorem Hsf.cells (h : Hsf B T n sp hb P W) : W.cell? ⟨hb, 0, none⟩ = some (.pointer (some ⟨sp, 0, none⟩)) ∧ W.cell? ⟨sp, 0, none⟩ = some (.pointer (some ⟨B + 1, 0, none⟩)) ∧ W.cell? ⟨sp, 1, none⟩ = some (.int .i64 T) ∧ W.cell? ⟨sp, 2, none⟩ = some (.int .i64 0) ∧ W.cell? ⟨sp, 3, none⟩ = some (.int .i64 n) := by
  obtain ⟨f, f1, f2, f3, f4, f5⟩ := h.st
  exact ⟨(cell_of_row h.hx 0).trans rfl, (f1.cell (by decide)).trans (by rw [f2]), (f1.cell (by decide)).trans (by rw [f3]), (f1.cell (by decide)).trans (by rw [f4]), (f1.cell (by decide)).trans (by rw [f5])⟩
theorem Hsf.row (h : Hsf B T n sp hb P W) {m : Nat} (hm : P.length = m) : ∃ ao c, W.cell? ⟨hb, 1, none⟩ = some (.slice ao m c) ∧ ∀ k, k < m → ∃ g, ao = some ⟨g, 0, none⟩ ∧ W.cell? ⟨g, k, none⟩ = some (.int .i64 (P.getD k 0)) := by
  obtain ⟨ao, c, e, hc⟩ := rw_form h.pv hm
  refine ⟨ao, c, ?_, hc⟩
  have := cell_of_row h.hx 1
  rw [this, e]; rfl
theorem Hw.ty {p r t : Nat} {H : List Int} (h : Hw T 0 n p r H t W) : ∃ a b, W.heap[p]? = some (.cells a 99 (0, 0)) ∧ W.heap[r]? = some (.cells b 57 (0, 0)) := by
  obtain ⟨l, ha⟩ := h.ar
  exact ⟨_, _, ha.hp, ha.hr⟩
end
theorem mu0_le (G : Gp) (N : Nat) : muM G N X0m ≤ 2 * N := by
  have := List.countP_le_length (p := fun x => G.own x && !X0m.M x) (l := List.range N)
  simp only [List.length_range] at this
  unfold muM
  show 2 * _ + 0 ≤ _
  omega
/-- The arena's words, copied, as the document's. -/
theorem dh_all {T n p r t g : Nat} {H : List Int} {w W : World} (hw : Hw T 0 n p r H t w) (hg : W.heap[g]? = some (.cells (u64s H) 57 (0, 0))) : Dh 0 T 0 n g H.length H W := by
  have htop := hw.top
  refine ⟨⟨by simp [ws_len], .inr ⟨g, H.length, u64s H, rfl, Nat.zero_le _, hg, by simp [u64s], by unfold maxLen; omega, by simp [u64s], ?_⟩⟩, hw.len, hw.top, hw.ok, hw.hT, hw.hG, hw.hn⟩
  rw [Nat.mul_one, List.take_of_length_le (by simp [u64s])]
  simp [u64s, ws]
theorem field_mk (k c : Int) (g m : Bool) (o r s : Int) (w : World) : (Instr.field 81 (.agg #[.int .u8 k, .int .u8 c, .bool g, .bool m, .int .u8 o, .int .u8 r, .int .u8 s]) 3).run Tryz.prog w = .ok (.bool m) w := by kernel_rfl
/-- The known heap is marked, and told by a box. -/
theorem kn_mark {B t0 bx g : Nat} {w4 wq : World} {O : Obs} {V : Nat → Int} {F : Nat → Nat → Int} (hG : Gd 1 4 knH (makesN 1 4 kn 4).1.Rs O V F) (hPl : Pls O knP) (ht : t0 ≤ 100000) (hw : Hw 1 0 4 (B + 1) B knH t0 w4) (htab : Cl.Tab w4) (hr1 : 0 ≠ B + 1) (hr2 : 0 ≠ B) (hr3 : 0 ≠ bx) (hbx : w4.heap[bx]? = some (.cells #[.int .i64 0] 3 (0, 0))) (kq : Kp [] w4 wq) (hg : wq.cell? ⟨g, 0, none⟩ = some (.int .i64 8)) (hgn : w4.heap.size ≤ g) :
    Calls Tryz.prog 10 #[.agg #[.iface 31 (.pointer (some ⟨B + 1, 0, none⟩)), .int .i64 1, .int .i64 0, .int .i64 4, .int .u8 0, .int .i64 1, .func (.func 23) #[] #[.pointer (some ⟨bx, 0, none⟩)]], .slice (some ⟨g, 0, none⟩) 1 1] wq fun e w' => e = .returned (.int .i64 0) ∧ (∃ (M : Nat → Bool) (t' : Nat), (∀ x, M x = true ↔ (x = 8 ∨ x = 40 ∨ x = 42)) ∧ Hw 1 0 4 (B + 1) B (markL knH M) t' w' ∧ w'.heap[bx]? = some (.cells #[.int .i64 44] 3 (0, 0))) ∧ Kp [B + 1, B, bx] w4 w' := by
  obtain ⟨a, b, e1, e2⟩ := hw.ty
  have n1 : bx ≠ B + 1 := fun e => by rw [e, e1] at hbx; simp at hbx
  have n2 : bx ≠ B := fun e => by rw [e, e2] at hbx; simp at hbx
  have l1 := lt_of_block e1
  have l2 := lt_of_block e2
  have l3 := lt_of_block hbx
  have lq := kq.size
  have htop := hw.top
  have hlen : knH.length = 136 := by kernel_rfl
  have hmu := mu0_le (gpOf O knH 0 true) knH.length
  rw [hlen] at hmu
  have hm := mark_is (o := 0) (room := 1) (tel := true) (R := [8]) (ao := some ⟨g, 0, none⟩) (cap := 1) (gf := .func (.func 23) #[] #[.pointer (some ⟨bx, 0, none⟩)]) (Sg := [bx]) (TL := TLb bx) hG (by decide) (by decide) (by decide) (by decide) (by decide) (hw.on kq) (tab_keep htab kq (by simp)) (by simp only [List.mem_cons, List.not_mem_nil, or_false, not_or]; exact ⟨hr1, hr2, hr3⟩) (by intro x hx; simp at hx; rcases hx with rfl | rfl | rfl <;> omega)
    (fun q ro h1 h2 => box_told bx ⟨n1, n2, by omega, by omega⟩) ⟨0, kq.row (by simp) hbx, .inl ⟨rfl, fun _ => rfl⟩⟩ (by intro y hy; simp at hy; subst hy; exact .inr (kn_obj hPl).1)
    (by
      intro j hj
      have : j = 0 := by simp at hj; exact hj
      subst this
      exact ⟨g, 0, rfl, by simp; omega, block_lt_of_cell hg, hg⟩) (by decide) (by rw [hlen]; simp only [List.length_singleton]; omega)
  refine hm.mono ?_
  rintro e w' ⟨rfl, X, t', h1, h2, h3, h4, h5⟩
  refine ⟨rfl, ⟨X.M, t', fun x => (h1 x).trans (kn_rc hPl (by simp) (by simp) x), h3, ?_⟩, (kq.mono (by simp)).trans h5⟩
  obtain ⟨v, hv, hv2⟩ := h4
  have ht44 : ∀ y, X.tl y = true ↔ y = 44 := fun y => (h2 rfl y).trans (kn_tld hPl y)
  rcases hv2 with ⟨_, hv2⟩ | hv2
  · have := (ht44 44).2 rfl
    rw [hv2] at this; cases this
  · rw [(ht44 v).1 hv2] at hv
    exact hv
/-- A marked object of the known heap, as the document sees it. -/
theorem kn_head {O : Obs} {V : Nat → Int} {F : Nat → Nat → Int} (hG : Gd 1 4 knH (makesN 1 4 kn 4).1.Rs O V F) (hPl : Pls O knP) {M : Nat → Bool} (hM : ∀ x, M x = true ↔ (x = 8 ∨ x = 40 ∨ x = 42)) {W : World} {g : Nat} (h : Dh 0 1 0 4 g 136 (markL knH M) W) {x : Nat} (hx : x = 8 ∨ x = 40 ∨ x = 42) :
    Calls Tryz.prog 25 #[.slice (some ⟨g, 0, none⟩) 136 136, .int .i64 x] W fun e w' => (∃ k c o' r s, e = .returned (.agg (mh7 k c false true o' r s))) ∧ Kp [] W w' := by
  have hlen : knH.length = 136 := by kernel_rfl
  have hl2 : (markL knH M).length = 136 := by rw [markL_len, hlen]
  have hO : (O x).isSome = true := by
    obtain ⟨o1, o2, o3, o4⟩ := kn_obj hPl
    rcases hx with rfl | rfl | rfl <;> assumption
  have hMo : ∀ x, M x = true → (gpOf O knH 0 false).own x = true := fun x hx => by
    obtain ⟨⟨a1, a2, a3, a4⟩, _⟩ := kn_graph (tel := false) hPl
    rcases (hM x).1 hx with rfl | rfl | rfl <;> assumption
  cases hOx : O x with
  | none => rw [hOx] at hO; cases hO
  | some z =>
    obtain ⟨o', rf, sz⟩ := z
    have hin := hG.hp.inn hOx
    obtain ⟨k, c, a1, a2, a3, a4, a5, a6, a7, a8, a9, a10, a11, a12, a13⟩ := hG.at (by decide) hMo hOx
    have hMx : M x = true := (hM x).2 hx
    rw [hMx] at a5 a6
    obtain ⟨e1, e2, e3, e4, e5, e6, e7⟩ := Wd.parts_of_word k c o' rf sz false true (by omega) (by omega) (by omega) (by omega) (by omega) a6
    have hd := dhead_yes h (x := x) (by rw [markL_len]; exact a1) (by rw [a5]; exact Wd.takeB_of_word k c o' rf sz false true (by omega) (by omega) (by omega) (by omega) (by omega) a6)
    rw [a5, e1, e2, e3, e4, e5, e6, e7, hl2] at hd
    exact hd.mono fun e w' ⟨p1, p2⟩ => ⟨⟨_, _, _, _, _, p1⟩, p2⟩
set_option maxHeartbeats 4000000 in
theorem wakes18 (HMd : Hid CMade) (w : World) (T0 : Cl.Tab w) : Calls Tryz.prog 7 #[] w fun e w' => e = .returned (.bool true) ∧ Kp [] w w' := by
  have HKn := Lib.hid (known_any w)
  have HT := Lib.hid T0
  clear T0
  go_enter Tryz.func7, Tryz.ntmps7
  go_wp2_with fail
  refine HKn.out.mono ?_
  rintro e w1 ⟨⟨ao, rfl, htg⟩, k1⟩
  have hrn : 0 ∉ ([] : List Nat) := by simp
  have HMa := Lib.hid (HMd.out w1 1 4 (tab_keep HT.out k1 hrn) (by decide) (by decide) (by decide) (by decide) ao 4 kn (by decide) htg)
  have HK1 := Lib.hid k1
  clear htg k1 HKn
  go_wp2_with fail
  refine HMa.out.mono ?_
  rintro e w2 ⟨sp, hb, qs, t, ht, rfl, hm⟩
  have HK2 := Lib.hid (HK1.out.trans (kp_of_below hm.bel))
  have hmP : (makesN 1 4 kn kn.length).2 = knP := kn_P
  rw [hmP] at hm
  obtain ⟨S, hS⟩ : ∃ S : As, S = { (makesN 1 4 kn kn.length).1 with H := kidsN knP kn (makesN 1 4 kn kn.length).1.H kn.length } := ⟨_, rfl⟩
  rw [← hS] at hm
  have hSH : S.H = knH := by rw [hS]; rfl
  obtain ⟨O, V, F, hG, hPl⟩ := kn_all
  obtain ⟨⟨t0, ht0, hw⟩, htab, hr1, hr2, hl1, hl2, hlen⟩ := hm.work (by decide)
  rw [hSH] at hw hlen
  have hsf := hm.stat (by decide)
  obtain ⟨B, hB⟩ : ∃ B, B = w1.heap.size := ⟨_, rfl⟩
  rw [← hB] at hm hw hr1 hr2 hl1 hl2 hsf
  have HBw := Lib.hid hB
  clear hB
  obtain ⟨c0, d0, d1, d2, d3⟩ := hsf.cells
  obtain ⟨w3, hw3⟩ : ∃ w3, w3 = w2.alloc (.cells #[.int .i64 0] 3) := ⟨_, rfl⟩
  have k3 : Kp [] w2 w3 := by rw [hw3]; exact (Kp.refl _ _).alloc _
  have r3 : w3.heap[w2.heap.size]? = some (.cells #[.int .i64 0] 3 (0, 0)) := by rw [hw3]; exact heap_alloc_new _ _
  obtain ⟨bx, hbx⟩ : ∃ bx, bx = w2.heap.size := ⟨_, rfl⟩
  rw [← hbx] at r3
  have c0 := kp_cell k3 (by simp) c0
  have d0 := kp_cell k3 (by simp) d0
  have d1 : w3.cell? ⟨sp, 1, none⟩ = some (.int .i64 1) := kp_cell k3 (by simp) d1
  have d2 := kp_cell k3 (by simp) d2
  have d3 : w3.cell? ⟨sp, 3, none⟩ = some (.int .i64 4) := kp_cell k3 (by simp) d3
  have H3 := Lib.hid (And.intro k3 (And.intro r3 hbx))
  have HW := Lib.hid (And.intro ht (And.intro ht0 (And.intro hw (And.intro htab (And.intro hr1 (And.intro hr2 (And.intro hl1 (And.intro hl2 hlen))))))))
  have HG := Lib.hid (And.intro hG hPl)
  have HM := Lib.hid hm
  have HSf := Lib.hid hsf
  clear ht hm hmP hS hSH hG hPl ht0 hw htab hr1 hr2 hl1 hl2 hlen hsf k3 r3 HMa
  go_upto_region 5 with (fail)
  rw [← hw3, ← hbx]
  clear hw3 hbx
  go_wp2_with fail
  have hz : ((w3.alloc (.cells #[.nilIface, .int .i64 0, .int .i64 0, .int .i64 0, .int .u8 0, .int .i64 0, .nilFunc] 53)).drew).heap[w3.heap.size]? = some (.cells #[.nilIface, .int .i64 0, .int .i64 0, .int .i64 0, .int .u8 0, .int .i64 0, .nilFunc] 53 (0, 0)) := heap_alloc_new w3 _
  have hkz : Kp [] w3 ((w3.alloc (.cells #[.nilIface, .int .i64 0, .int .i64 0, .int .i64 0, .int .u8 0, .int .i64 0, .nilFunc] 53)).drew) := ((Kp.refl _ _).alloc _).drew
  have hrow : ((w3.alloc (.cells #[.iface 31 (.pointer (some ⟨B + 1, 0, none⟩)), .int .i64 1, .int .i64 0, .int .i64 4, .int .u8 0, .int .i64 1, .nilFunc] 53)).drew).heap[w3.heap.size]? = some (.cells #[.iface 31 (.pointer (some ⟨B + 1, 0, none⟩)), .int .i64 1, .int .i64 0, .int .i64 4, .int .u8 0, .int .i64 1, .nilFunc] 53 (0, 0)) := heap_alloc_new w3 _
  have hkb : Kp [] w3 ((w3.alloc (.cells #[.iface 31 (.pointer (some ⟨B + 1, 0, none⟩)), .int .i64 1, .int .i64 0, .int .i64 4, .int .u8 0, .int .i64 1, .nilFunc] 53)).drew) := ((Kp.refl _ _).alloc _).drew
  have hsf : (store ⟨w3.heap.size, 6, none⟩ (.func (.func 23) #[] #[.pointer (some ⟨bx, 0, none⟩)])).run Tryz.prog ((w3.alloc (.cells #[.iface 31 (.pointer (some ⟨B + 1, 0, none⟩)), .int .i64 1, .int .i64 0, .int .i64 4, .int .u8 0, .int .i64 1, .nilFunc] 53)).drew) = .ok () (((w3.alloc (.cells #[.iface 31 (.pointer (some ⟨B + 1, 0, none⟩)), .int .i64 1, .int .i64 0, .int .i64 4, .int .u8 0, .int .i64 1, .nilFunc] 53)).drew).setCell ⟨w3.heap.size, 6, none⟩ (.func (.func 23) #[] #[.pointer (some ⟨bx, 0, none⟩)])) := Li.store_one ((cell_of_row hrow 6).trans (show _ = some .nilFunc from rfl)) (free_of_row hrow 6) rfl
  have hk9 : Kp [] w3 (((w3.alloc (.cells #[.iface 31 (.pointer (some ⟨B + 1, 0, none⟩)), .int .i64 1, .int .i64 0, .int .i64 4, .int .u8 0, .int .i64 1, .nilFunc] 53)).drew).setCell ⟨w3.heap.size, 6, none⟩ (.func (.func 23) #[] #[.pointer (some ⟨bx, 0, none⟩)])) := kp_new_set hkb (b := w3.heap.size) ((Kp.refl _ _).setCell (.inl (by simp)) _) (Nat.le_refl _)
  have hr9 : (((w3.alloc (.cells #[.iface 31 (.pointer (some ⟨B + 1, 0, none⟩)), .int .i64 1, .int .i64 0, .int .i64 4, .int .u8 0, .int .i64 1, .nilFunc] 53)).drew).setCell ⟨w3.heap.size, 6, none⟩ (.func (.func 23) #[] #[.pointer (some ⟨bx, 0, none⟩)])).heap[w3.heap.size]? = some (.cells #[.iface 31 (.pointer (some ⟨B + 1, 0, none⟩)), .int .i64 1, .int .i64 0, .int .i64 4, .int .u8 0, .int .i64 1, .func (.func 23) #[] #[.pointer (some ⟨bx, 0, none⟩)]] 53 (0, 0)) := by rw [heap_setCell_same _ _ _ _ _ _ hrow]; rfl
  have hrow7 : ((w3.alloc (.cells #[.iface 31 (.pointer (some ⟨B + 1, 0, none⟩)), .int .i64 1, .int .i64 0, .int .i64 4, .int .u8 0, .int .i64 1, .func (.func 23) #[] #[.pointer (some ⟨bx, 0, none⟩)]] 53)).drew).heap[w3.heap.size]? = some (.cells #[.iface 31 (.pointer (some ⟨B + 1, 0, none⟩)), .int .i64 1, .int .i64 0, .int .i64 4, .int .u8 0, .int .i64 1, .func (.func 23) #[] #[.pointer (some ⟨bx, 0, none⟩)]] 53 (0, 0)) := heap_alloc_new w3 _
  have hk7 : Kp [] w3 ((w3.alloc (.cells #[.iface 31 (.pointer (some ⟨B + 1, 0, none⟩)), .int .i64 1, .int .i64 0, .int .i64 4, .int .u8 0, .int .i64 1, .func (.func 23) #[] #[.pointer (some ⟨bx, 0, none⟩)]] 53)).drew) := ((Kp.refl _ _).alloc _).drew
  have HC : Hid (∀ wx, Kp [] w3 wx → wx.cell? ⟨hb, 0, none⟩ = some (.pointer (some ⟨sp, 0, none⟩)) ∧ wx.cell? ⟨sp, 0, none⟩ = some (.pointer (some ⟨B + 1, 0, none⟩)) ∧ wx.cell? ⟨sp, 1, none⟩ = some (.int .i64 1) ∧ wx.cell? ⟨sp, 2, none⟩ = some (.int .i64 0) ∧ wx.cell? ⟨sp, 3, none⟩ = some (.int .i64 4) ∧ Kp [] w3 wx) := Lib.hid fun wx k => ⟨kp_cell k (by simp) c0, kp_cell k (by simp) d0, kp_cell k (by simp) d1, kp_cell k (by simp) d2, kp_cell k (by simp) d3, k⟩
  have HW9 := Lib.hid (And.intro hk9 hr9)
  have HW7 := Lib.hid (And.intro hk7 hrow7)
  have HKZ := Lib.hid (And.intro hkz hkb)
  clear hz hkz hrow hkb hk9 hr9 hrow7 hk7
  go_cut [4] (fun v4 we => v4 = .pointer (some ⟨w3.heap.size, 0, none⟩) ∧ Hid (Kp [] w3 we ∧ we.heap[w3.heap.size]? = some (.cells #[.iface 31 (.pointer (some ⟨B + 1, 0, none⟩)), .int .i64 1, .int .i64 0, .int .i64 4, .int .u8 0, .int .i64 1, .func (.func 23) #[] #[.pointer (some ⟨bx, 0, none⟩)]] 53 (0, 0))))
  case first =>
    have k0 : Kp [] w3 w3 := Kp.refl _ _
    go_region_held3 (fun wx => wx.cell? ⟨hb, 0, none⟩ = some (.pointer (some ⟨sp, 0, none⟩)) ∧ wx.cell? ⟨sp, 0, none⟩ = some (.pointer (some ⟨B + 1, 0, none⟩)) ∧ wx.cell? ⟨sp, 1, none⟩ = some (.int .i64 1) ∧ wx.cell? ⟨sp, 2, none⟩ = some (.int .i64 0) ∧ wx.cell? ⟨sp, 3, none⟩ = some (.int .i64 4) ∧ Kp [] w3 wx)
      (first
        | with_reducible assumption
        | exact HC.out _ HKZ.out.1
        | exact HC.out _ HKZ.out.2
        | exact HC.out _ HW7.out.1
        | exact HC.out _ HW9.out.1
        | exact HC.out _ ((Kp.refl [] _).drew)
        | exact HC.out _ (Kp.refl [] _))
      (fail)
    all_goals
      rename_i hHeld
      clear hHeld
    all_goals go_wp2_with fail
    all_goals go_meet
    all_goals first | exact ⟨rfl, HW7⟩ | exact ⟨rfl, HW9⟩
  case rest =>
    obtain ⟨rfl, HK4⟩ := hcut
    obtain ⟨w4, rfl⟩ : ∃ w4 : World, w4 = wc := ⟨_, rfl⟩
    clear HW7 HW9 HKZ HC hsf
    obtain ⟨ht, ht0, hw, htab, hr1, hr2, hl1, hl2, hlen⟩ := HW.out
    have K4 := H3.out.1.trans HK4.out.1
    have hbx4 := HK4.out.1.row (by simp) H3.out.2.1
    have hr3 : 0 ≠ bx := by
      have := block_lt_of_cell htab.c0
      have := H3.out.2.2
      omega
    have HMk := Lib.hid (fun (wq : World) (g : Nat) (kq : Kp [] w4 wq) (hg : wq.cell? ⟨g, 0, none⟩ = some (.int .i64 8)) (hgn : w4.heap.size ≤ g) => kn_mark (bx := bx) HG.out.1 HG.out.2 (Nat.le_trans ht0 ht) (hw.on K4) (tab_keep htab K4 (by simp)) hr1 hr2 hr3 hbx4 kq hg hgn)
    have HAt := Lib.hid (fun (wq : World) (kq : Kp [] w4 wq) => hm_at (HM.out.on (K4.trans kq)) (by decide) 1 (by decide) 8 (by decide))
    have m0 := (cell_of_row HK4.out.2 0).trans (show _ = some (.iface 31 (.pointer (some ⟨B + 1, 0, none⟩))) from rfl)
    have m1 := (cell_of_row HK4.out.2 1).trans (show _ = some (.int .i64 1) from rfl)
    have m2 := (cell_of_row HK4.out.2 2).trans (show _ = some (.int .i64 0) from rfl)
    have m3 := (cell_of_row HK4.out.2 3).trans (show _ = some (.int .i64 4) from rfl)
    have m4 := (cell_of_row HK4.out.2 4).trans (show _ = some (.int .u8 0) from rfl)
    have m5 := (cell_of_row HK4.out.2 5).trans (show _ = some (.int .i64 1) from rfl)
    have m6 := (cell_of_row HK4.out.2 6).trans (show _ = some (.func (.func 23) #[] #[.pointer (some ⟨bx, 0, none⟩)]) from rfl)
    have HK4' := Lib.hid K4
    have hlt34 : w3.heap.size < w4.heap.size := lt_of_block HK4.out.2
    have hne34 : ¬ w3.heap.size = w4.heap.size := by omega
    clear ht ht0 hw htab hr1 hr2 hl1 hl2 hlen K4 hbx4 hr3 c0 d0 d1 d2 d3
    go_wp2_with fail
    go_cut [5] (fun v5 we => v5 = .int .i64 0 ∧ Hid ((∃ (M : Nat → Bool) (t' : Nat), (∀ x, M x = true ↔ (x = 8 ∨ x = 40 ∨ x = 42)) ∧ Hw 1 0 4 (B + 1) B (markL knH M) t' we ∧ we.heap[bx]? = some (.cells #[.int .i64 44] 3 (0, 0))) ∧ Kp [B + 1, B, bx] w4 we))
    case first =>
      go_region_with (first
        | (go_at_call 24
           refine (HAt.out _ (by repeat (first | with_reducible exact Kp.refl _ _ | with_reducible refine Kp.drew ?_ | with_reducible refine Kp.alloc ?_ _))).mono ?_
           rintro e w5 ⟨rfl, rfl⟩)
        | (go_at_call 10
           refine (HMk.out _ w4.heap.size (by repeat (first | with_reducible exact Kp.refl _ _ | with_reducible refine Kp.drew ?_ | with_reducible refine Kp.alloc ?_ _)) (cell_of_row (heap_alloc_new _ _) 0) (Nat.le_refl _)).mono ?_
           rintro e w5 ⟨rfl, h5, k5⟩
           have F5 := Lib.hid (And.intro h5 k5)
           clear h5 k5))
      all_goals go_wp2_with fail
      all_goals go_meet
      all_goals exact ⟨rfl, F5⟩
    case rest =>
      obtain ⟨rfl, H5⟩ := hcut
      obtain ⟨w5, rfl⟩ : ∃ w5 : World, w5 = wc := ⟨_, rfl⟩
      clear m0 m1 m2 m3 m4 m5 m6 HMk HAt
      obtain ⟨⟨M, t', hM, hw5, hbx5⟩, k5⟩ := H5.out
      have K25 : Kp [B + 1, B, bx] w2 w5 := (HK4'.out.mono (by simp)).trans k5
      have hsf5 := HSf.out.keep K25 (by
        intro g hg
        have := H3.out.2.2
        simp at hg
        rcases hg with e | e | e
        · exact .inl e
        · exact .inr (.inl e)
        · exact .inr (.inr (by omega))) hw5.ty
      obtain ⟨c0, d0, d1, d2, d3⟩ := hsf5.cells
      obtain ⟨aP, cP, c1, hcP⟩ := hsf5.row (m := 4) (by decide)
      obtain ⟨l5, har⟩ := hw5.ar
      have hl136 : (markL knH M).length = 136 := by rw [markL_len]; kernel_rfl
      have hall := all_any w5 (B + 1) B _ har (by show 1 ≤ (markL knH M).length; omega) hw5.top
      rw [show (St.mk (markL knH M) t' l5).ws.length = 136 from hl136] at hall
      have HAl := Lib.hid hall
      have HN5 := Lib.hid (And.intro hM (And.intro hw5 (And.intro hbx5 hsf5)))
      have HK5 : Hid (Kp [] w w5) := Lib.hid (by
        have hB := HM.out.bel
        refine ⟨K25.os.trans HK2.out.os, K25.tape.trans HK2.out.tape, K25.output.trans HK2.out.output, Nat.le_trans HK2.out.size K25.size, fun i hi hn => ?_⟩
        have hi2 := Nat.lt_of_lt_of_le hi HK2.out.size
        refine (K25.block i hi2 ?_).trans (HK2.out.block i hi hn)
        have z1 := H3.out.2.2
        have z2 := HK1.out.size
        have z3 := HBw.out
        simp; omega)
      have HP := Lib.hid hcP
      clear hall har hl136 hM hw5 hbx5 hsf5 k5 K25 d1 d2 d3 hcP H5 HK4 HK4' hlt34 hne34
      go_wp2_with fail
      refine HAl.out.mono ?_
      rintro e w6 ⟨rfl, hg6, k6⟩
      obtain ⟨g6, hg6e⟩ : ∃ g6, g6 = w5.heap.size := ⟨_, rfl⟩
      rw [← hg6e] at hg6 ⊢
      have c0 := kp_cell k6 (by simp) c0
      have c1 := kp_cell k6 (by simp) c1
      have HD6 := Lib.hid (fun (wq : World) (kq : Kp [] w6 wq) => dh_all HN5.out.2.1 (kq.row (by simp) hg6))
      have HK6 := Lib.hid k6
      clear k6 hg6 hg6e d0 HAl
      go_wp2_with fail
      go_loopg [7, 8] 3 (fun gg v7 v8 wr => ∃ i : Nat, i + gg = 3 ∧ v8 = .int .i64 i ∧ v7 = .int .i64 i ∧ Hid (Kp [] w6 wr))
      case atStart => exact ⟨0, by omega, rfl, rfl, Lib.hid (Kp.refl _ _)⟩
      case round =>
        obtain ⟨i, hi, rfl, rfl, HR⟩ := hrel
        have c0r := kp_cell HR.out (by simp) c0
        have c1r := kp_cell HR.out (by simp) c1
        by_cases hlt : i < 3
        · obtain ⟨gP, hgP, cP1⟩ := HP.out i (by omega)
          have cP2 := kp_cell (HK6.out.trans HR.out) (by simp) cP1
          obtain ⟨x, hx, hx2⟩ : ∃ x : Nat, knP.getD i 0 = x ∧ (x = 8 ∨ x = 40 ∨ x = 42) := by
            match i, hlt with
            | 0, _ => exact ⟨8, rfl, .inl rfl⟩
            | 1, _ => exact ⟨40, rfl, .inr (.inl rfl)⟩
            | 2, _ => exact ⟨42, rfl, .inr (.inr rfl)⟩
          rw [hx] at cP2
          have hd := HD6.out wr HR.out
          rw [show (markL knH M).length = 136 by rw [markL_len]; kernel_rfl] at hd
          have HHd := Lib.hid (kn_head HG.out.1 HG.out.2 HN5.out.1 hd hx2)
          have i3 : ((i : Int) < 3) := by omega
          subst hgP
          clear cP1 hx hx2 hd
          go_wp2_with fail
          refine HHd.out.mono ?_
          rintro e w7 ⟨⟨k7, c7, o7, r7, s7, rfl⟩, hk7⟩
          have hfld := field_mk k7 c7 false true o7 r7 s7
          have F := Lib.hid (HR.out.trans hk7)
          clear hk7 HHd
          go_wp2_with fail
          go_roundg (3 - (i + 1))
          case rel => exact ⟨i + 1, by omega, by go_num, by go_num, F⟩
          case measure => omega
        · have e3 : i = 3 := by omega
          subst e3
          have kr := HK6.out.trans HR.out
          have hb7 := HN5.out.2.2.1
          have cb := fun (wq : World) (kq : Kp [] wr wq) => (cell_of_row ((kr.trans kq).row (by simp) hb7) 0).trans (show _ = some (.int .i64 44) from rfl)
          have cb0 := cb wr (Kp.refl _ _)
          have HAt4 := Lib.hid (fun (wq : World) (kq : Kp [] wr wq) => (at_any (HN5.out.2.2.2.keep (kr.trans kq) (by simp) (HN5.out.2.1.on (kr.trans kq)).ty).hx (HN5.out.2.2.2.keep (kr.trans kq) (by simp) (HN5.out.2.1.on (kr.trans kq)).ty).pv (by decide) 4 (by decide) 44 (by decide)).mono (fun e w' h => And.intro h.1 h.2.symm))
          have F := Lib.hid (HK5.out.trans kr)
          clear kr hb7 cb
          go_wp2_with fail
          go_quiet (first | (go_at_call 24; exact Calls.quiet_of_same (HAt4.out _ (Gx.kp_drewN _ _))))
          go_wp2_with fail
          go_ret
          exact ⟨rfl, F.out.trans (Gx.kp_drewN _ _)⟩
end Go.Proofs.YticbnckikkdknaaGreatDoor
