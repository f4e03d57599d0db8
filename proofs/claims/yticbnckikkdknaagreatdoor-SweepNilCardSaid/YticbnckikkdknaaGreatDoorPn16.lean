/- Law 18's heap: Made, walked: things are made one behind the other, then their references and headers are set. Package mark, plainly: marking over a graph that stands still: what is treated, looked into, drained, searched; whatever room there is, just what is reached is marked. Conditions: as each theorem states them. -/
import Derived.Test.YticbnckikkdknaaGreatDoorPn15
namespace Go.Proofs.YticbnckikkdknaaGreatDoor
open List renaming getElem?_cons_zero → gqZ
set_option linter.unusedVariables false
set_option linter.unusedSimpArgs false
set_option maxRecDepth 100000
open Go.RowKit

/-- Where a thing lies. -/
def TgAt (W : World) (b o : Nat) (x : Th) : Prop :=
  W.cell? ⟨b, o, none⟩ = some (.int .u8 x.ow) ∧ W.cell? ⟨b, o + 1, none⟩ = some (.int .u8 x.rf) ∧ W.cell? ⟨b, o + 2, none⟩ = some (.int .u8 x.sz) ∧ W.cell? ⟨b, o + 3, none⟩ = some (.bool x.g) ∧ W.cell? ⟨b, o + 4, none⟩ = some (.int .u8 x.c) ∧
  ∃ ao cp, W.cell? ⟨b, o + 5, none⟩ = some (.slice ao x.tl.length cp) ∧ ∀ k, k < x.tl.length → ∃ g q, ao = some ⟨g, q, none⟩ ∧ W.cell? ⟨g, q + k, none⟩ = some (.int .u8 (x.tl.getD k 0))
def ThB (x : Th) : Prop := x.ow ≤ 255 ∧ x.rf ≤ 255 ∧ x.sz ≤ 255 ∧ x.c ≤ 255 ∧ ∀ k, x.tl.getD k 0 ≤ 255
def Tgs (W : World) (ao : Option Addr) (l : List Th) : Prop := ∀ j, j < l.length → ∃ b o, ao = some ⟨b, o, none⟩ ∧ TgAt W b (o + j * 6) (l.getD j Th0) ∧ ThB (l.getD j Th0)
theorem TgAt.keep {W W' : World} {b o : Nat} {x : Th} (h : TgAt W b o x) (k : Kp [] W W') : TgAt W' b o x := by
  obtain ⟨h0, h1, h2, h3, h4, ao, cp, h5, h6⟩ := h
  refine ⟨kp_cell k (by simp) h0, kp_cell k (by simp) h1, kp_cell k (by simp) h2, kp_cell k (by simp) h3, kp_cell k (by simp) h4, ao, cp, kp_cell k (by simp) h5, fun j hj => ?_⟩
  obtain ⟨g, q, e, hc⟩ := h6 j hj
  exact ⟨g, q, e, kp_cell k (by simp) hc⟩
theorem Tgs.keep {W W' : World} {ao : Option Addr} {l : List Th} (h : Tgs W ao l) (k : Kp [] W W') : Tgs W' ao l := fun j hj => by
  obtain ⟨b, o, e, h1, h2⟩ := h j hj
  exact ⟨b, o, e, h1.keep k, h2⟩

/-- The law's heap: its State, and its things' places. -/
structure Hm (B T n sp hb : Nat) (qs : Nat → Nat) (s : As) (P : List Int) (t : Nat) (w W : World) : Prop where
  ex : ∃ v col pv, Aw T n (B + 1) B sp qs v s t col W ∧ Lo B T (B + 1) B sp qs v ∧ W.heap[hb]? = some (.cells #[.pointer (some ⟨sp, 0, none⟩), pv] 48 (0, 0)) ∧ Li.Rw W pv P ∧ (∀ g ∈ Li.blk pv, col g = 1000 ∧ B ≤ g) ∧ col hb = 1000
  ge : B ≤ hb
  bel : Below B w W

section
variable {T n : Nat}
/-- The contract of State.Make, as aw_make has it. -/
def CMk (B T n p r sp : Nat) (qs : Nat → Nat) : Prop := ∀ (v : Av) (s : As) (t : Nat) (col : Nat → Nat) (w : World) (i rf sz : Nat), Aw T n p r sp qs v s t col w → t ≤ 250000 → i < T → (s.made i).length ≤ 1000 → (s.size i).length ≤ 1000 → Lo B T p r sp qs v → B ≤ w.heap.size → rf ≤ sz → sz ≤ 95 →
    Calls Tryz.prog 27 #[.pointer (some ⟨sp, 0, none⟩), .int .i64 i, .int .i64 rf, .int .i64 sz] w fun e w' => e = .returned (.bool true) ∧ ∃ v' col', Aw T n p r sp qs v' (madeS T n s i rf sz) (t + 600) col' w' ∧ Lo B T p r sp qs v' ∧ BK B col col' w w'

/-- Which rows of what was made grow. -/
theorem made_row (s : As) (i rf sz : Nat) : ((pmakeS T 0 n i (s.wk i) rf sz (s.H, s.Rs i)).2 = none ∧ (madeS T n s i rf sz).made i = s.made i) ∨ ∃ x, (pmakeS T 0 n i (s.wk i) rf sz (s.H, s.Rs i)).2 = some x ∧ (madeS T n s i rf sz).made i = s.made i ++ [x] := by
  unfold madeS
  cases h : (pmakeS T 0 n i (s.wk i) rf sz (s.H, s.Rs i)).2 with
  | none => exact .inl ⟨rfl, rfl⟩
  | some x => exact .inr ⟨x, rfl, upd1_same⟩
/-- A row of numbers, as a value. -/
theorem rw_form {w : World} {v : Value} {xs : List Int} {m : Nat} (h : Li.Rw w v xs) (hm : xs.length = m) : ∃ ao c, v = .slice ao m c ∧ ∀ k, k < m → ∃ g, ao = some ⟨g, 0, none⟩ ∧ w.cell? ⟨g, k, none⟩ = some (.int .i64 (xs.getD k 0)) := by
  subst hm
  rcases h with ⟨rfl, rfl⟩ | ⟨g, cap, cur, rfl, h1, h2, h3, h4, h5⟩
  · exact ⟨none, 0, rfl, fun k hk => by simp at hk⟩
  · refine ⟨_, cap, rfl, fun k hk => ⟨g, rfl, ?_⟩⟩
    rw [cell_of_row h1]
    have e : cur[k]? = (cur.toList.take xs.length)[k]? := by rw [List.getElem?_take_of_lt (by omega)]; simp
    rw [e, h5, Li.ints_get _ k hk]

/-- One number more behind a row. -/
theorem app_one {w : World} {v : Value} {xs : List Int} {m : Nat} (hn : xs.length = m) (z : Int) (hown : Li.Rw w v xs) (hl : m ≤ 100000) (ty : TypeId) :
    ∃ g cap w', (Builtin.append_ #[46, 46] ty #[v, .slice (some ⟨w.heap.size, 0, none⟩) 1 1]).run Tryz.prog (w.alloc (.cells #[.int .i64 z] 3)) = .ok (.slice (some ⟨g, 0, none⟩) (m + 1) cap) w' ∧ Li.Rw w' (.slice (some ⟨g, 0, none⟩) (m + 1) cap) (xs ++ [z]) ∧ Kp (Li.blk v) w w' ∧ (g ∈ Li.blk v ∨ w.heap.size ≤ g) := by
  subst hn
  have ka : Kp [] w (w.alloc (.cells #[.int .i64 z] 3)) := (Kp.refl _ _).alloc _
  have hsrc : Src (w.alloc (.cells #[.int .i64 z] 3)) ⟨w.heap.size, 0, none⟩ [z] := fun j u hu => by
    match j, hu with
    | 0, hu =>
      simp only [Li.ints, List.map_cons, List.map_nil, gqZ, Option.some.injEq] at hu
      subst hu
      rw [Addr.add_lit]
      exact cell_of_row (heap_alloc_new w (.cells #[.int .i64 z] 3)) 0
    | j + 1, hu => simp [Li.ints] at hu
  obtain ⟨g, cap, w', hrun, hrw, hkp, hg⟩ := Gx.run_app (T := 3) (t := 46) (ty := ty) (base := 0) Tryz.underlying46 info_in (by decide) (⟨(hown.keep0 ka).own⟩ : Gx.Rw 3 1 0 _ v xs.length (Li.ints xs)) (Nat.zero_le _) _ 1 1 (Li.ints [z]) rfl hsrc (by
    intro u hu
    simp only [Li.ints, List.mem_map] at hu
    obtain ⟨x, _, rfl⟩ := hu
    rfl) (by omega) (by omega) (by omega)
  rw [← ints_app] at hrw
  have hr : Li.Rw w' (.slice (some ⟨g, 0, none⟩) (xs.length + 1) cap) (xs ++ [z]) := by
    have := hrw.own
    refine Li.Rw.of_own (base := 0) ?_
    rw [List.length_append]
    exact this
  have ks := ka.size
  exact ⟨g, cap, w', hrun, hr, (ka.mono (by simp)).trans hkp, hg.imp id fun e => by omega⟩
theorem makesN_len (l : List Th) : ∀ k, (makesN T n l k).2.length = k
  | 0 => rfl
  | k + 1 => by rw [makesN]; unfold makeS; simp [makesN_len l k]
section
variable {B p r sp t : Nat} {qs : Nat → Nat} {v : Av} {s : As} {col : Nat → Nat} {w w' : World} {S : List Nat}
/-- What is the law's alone is turned. -/
theorem Aw.side (h : Aw T n p r sp qs v s t col w) (hT : 0 < T) (k : Kp S w w') (hS : ∀ g ∈ S, col g = 1000 ∧ ∃ cur U, w.heap[g]? = some (.cells cur U (0, 0)) ∧ U ≠ 99 ∧ U ≠ 57 ∧ U ≠ 172 ∧ U ≠ 44) : Aw T n p r sp qs v s t col w' := by
  have hT64 := (h.mws.one 0 hT).fit.2.1
  have hrow : ∀ {U : TypeId} {sz m : Nat} {x : Value} {xs : List Value}, Gx.Rw U sz 0 w x m xs → (∀ g ∈ Gx.blk x, col g = 0) → Gx.Rw U sz 0 w' x m xs := fun hr h0 => hr.keep k fun g hg e => by
    have := (hS g e).1; have := h0 g hg; omega
  obtain ⟨s1, s2, s3, s4⟩ := h.still hT k (fun g hg => by
    obtain ⟨h1, cur, U, h2, h3, h4, h5, h6⟩ := hS g hg
    exact ⟨cur, U, h2, h3, h4, h5, h6, by omega, by omega, by omega⟩)
  refine { h with st := s1, mws := s2, dh := s3, rd := s4, free := ?_, walks := ?_, docs := ?_, mades := ?_, sizes := ?_, mr := fun j hj => ?_, sr := fun j hj => ?_, lt := fun j hj d hd g hg => Nat.lt_of_lt_of_le (h.lt j hj d hd g hg) k.size }
  · exact hrow h.free (fun g hg => h.c0 g (by simp [hg]))
  · exact hrow h.walks (fun g hg => h.c0 g (by simp [hg]))
  · exact hrow h.docs (fun g hg => h.c0 g (by simp [hg]))
  · exact hrow h.mades (fun g hg => h.c0 g (by simp [hg]))
  · exact hrow h.sizes (fun g hg => h.c0 g (by simp [hg]))
  · exact (h.mr j hj).keep k fun g hg e => by have := (hS g e).1; have := h.c3 j hj g hg; omega
  · exact (h.sr j hj).keep k fun g hg e => by have := (hS g e).1; have := h.c4 j hj g hg; omega
end

/-- What a heap's header is, in words. -/
theorem Gd.word {H : List Int} {Rs : Nat → Nat → List Int} {O : Obs} {V : Nat → Int} {F : Nat → Nat → Int} (h : Gd T n H Rs O V F) (hT : T ≤ 64) {x o rf sz : Nat} (hx : O x = some (o, rf, sz)) :
    ∃ k c : Nat, H.getD x 0 = Wd.wordI k c o rf sz false false ∧ Wd.mayB k c o rf sz false false = true ∧ ((k = 2 ∧ c = 0) ∨ (k = 3 ∧ c ≤ 1)) := by
  have hin := h.hp.inn hx
  rw [h.hp.hdr x o rf sz hx]
  rcases h.vk x o rf sz hx with e | ⟨c, hc, e⟩
  · exact ⟨2, 0, e, by rw [Wd.mayB_iff]; simp; omega, .inl ⟨rfl, rfl⟩⟩
  · exact ⟨3, c, e, by rw [Wd.mayB_iff]; simp; omega, .inr ⟨rfl, hc⟩⟩
theorem Gd.word' {H : List Int} {Rs : Nat → Nat → List Int} {O : Obs} {V : Nat → Int} {F : Nat → Nat → Int} (h : Gd T n H Rs O V F) (hT : T ≤ 64) {x o rf sz : Nat} (hx : O x = some (o, rf, sz)) :
    ∃ k c : Nat, H.getD x 0 = Wd.wordI k c o rf sz false false ∧ Wd.mayB k c o rf sz false false = true ∧ k ≤ 3 ∧ c ≤ 1 ∧ ∀ w, Calls Tryz.prog 28 #[.int .u64 (H.getD x 0)] w fun e w' => e = .returned (.tuple #[.agg #[.int .u8 k, .int .u8 c, .bool false, .bool false, .int .u8 o, .int .u8 rf, .int .u8 sz], .int .i64 0]) ∧ Kp [] w w' := by
  have hin := h.hp.inn hx
  obtain ⟨k, c, e, hm, hk⟩ := h.word hT hx
  refine ⟨k, c, e, hm, by omega, by omega, fun w => ?_⟩
  have hp := Wd.parts_of_word k c o rf sz false false (by omega) (by omega) (by omega) (by omega) (by omega) hm
  have hl := Wd.word_lt k c o rf sz false false (by omega) (by omega) (by omega) (by omega) (by omega) hm
  rw [e]
  obtain ⟨e1, e2, e3, e4, e5, e6, e7⟩ := hp
  have := Wd.rtake_yes (Wd.wordI k c o rf sz false false) w hl.1 (by omega) hl.2 (by rw [e1, e2, e3, e4, e5, e6, e7]; exact hm)
  rw [e1, e2, e3, e4, e5, e6, e7] at this
  exact this.mono fun e w' ⟨he, hb⟩ => ⟨he, kp_of_below hb⟩
theorem Hm.on {B sp hb t : Nat} {qs : Nat → Nat} {s : As} {P : List Int} {w W W' : World} (h : Hm B T n sp hb qs s P t w W) (k : Kp [] W W') : Hm B T n sp hb qs s P t w W' := by
  obtain ⟨v, col, pv, hA, hLo, hbx, hpv, hpc, hcb⟩ := h.ex
  exact ⟨⟨v, col, pv, hA.on k, hLo, k.row (by simp) hbx, hpv.keep0 k, hpc, hcb⟩, h.ge, h.bel.trans (k.below (Nat.le_trans h.ge (Nat.le_of_lt (lt_of_block hbx))) (by simp))⟩
/-- A word is set. -/
theorem hm_set {B sp hb t : Nat} {qs : Nat → Nat} {s : As} {P : List Int} {w W : World} (h : Hm B T n sp hb qs s P t w W) (hT : 0 < T) (ht : t ≤ 800000) (a : Nat) (ha : a < 3 + T + 33 * n) (x : Int) (h0 : 0 ≤ x) (h1 : x < 18446744073709551616) (hf : Fit T n (s.H.set a x) s.Rs) :
    Calls Tryz.prog 29 #[.pointer (some ⟨sp, 0, none⟩), .int .i64 a, .int .u64 x] W fun e w' => e = .returned (.tuple #[]) ∧ Hm B T n sp hb qs { s with H := s.H.set a x } P (t + 1) w w' ∧ ∀ (g : Nat) (cs : Array Value) (U : TypeId), W.heap[g]? = some (.cells cs U (0, 0)) → U ≠ 99 → U ≠ 57 → U ≠ 44 → w'.heap[g]? = some (.cells cs U (0, 0)) := by
  obtain ⟨v, col, pv, hA, hLo, hbx, hpv, hpc, hcb⟩ := h.ex
  refine (aw_set hA hT ht a ha x h0 h1 hf).mono ?_
  rintro e w' ⟨rfl, ⟨b, c, hA'⟩, k⟩
  obtain ⟨a1, a2, a3, e1, e2, e3⟩ := (hA.mws.one 0 hT).types
  have hst := hA.st
  unfold S13 at hst
  have hkeep : ∀ (g : Nat) (cs : Array Value) (U : TypeId), W.heap[g]? = some (.cells cs U (0, 0)) → U ≠ 99 → U ≠ 57 → U ≠ 44 → w'.heap[g]? = some (.cells cs U (0, 0)) := fun g cs U hg u1 u2 u3 => by
    refine k.row ?_ hg
    intro e
    simp only [List.mem_cons, List.not_mem_nil, or_false] at e
    rcases e with e | e | e
    · rw [e, e1] at hg; simp at hg; exact u1 hg.2.symm
    · rw [e, e2] at hg; simp at hg; exact u2 hg.2.symm
    · rw [e, hst] at hg; simp at hg; exact u3 hg.2.symm
  refine ⟨rfl, ⟨⟨_, col, pv, hA', ?_, hkeep _ _ _ hbx (by decide) (by decide) (by decide), ?_, hpc, hcb⟩, h.ge, h.bel.trans (k.below (Nat.le_trans h.ge (Nat.le_of_lt (lt_of_block hbx))) ?_)⟩, hkeep⟩
  · exact { p0 := hLo.p0, r0 := hLo.r0, s0 := hLo.s0, q0 := hLo.q0, o0 := hLo.o0, w0 := by show ∀ g ∈ Gx.blk (heapF v.f T n b c 5), B ≤ g; rw [show heapF v.f T n b c 5 = v.f 5 from hA.heapF_ne b c 5 (by decide)]; exact hLo.w0, d0 := by show ∀ g ∈ Gx.blk (heapF v.f T n b c 10), B ≤ g; rw [show heapF v.f T n b c 10 = v.f 10 from hA.heapF_ne b c 10 (by decide)]; exact hLo.d0, m0 := by show ∀ g ∈ Gx.blk (heapF v.f T n b c 11), B ≤ g; rw [show heapF v.f T n b c 11 = v.f 11 from hA.heapF_ne b c 11 (by decide)]; exact hLo.m0, z0 := by show ∀ g ∈ Gx.blk (heapF v.f T n b c 12), B ≤ g; rw [show heapF v.f T n b c 12 = v.f 12 from hA.heapF_ne b c 12 (by decide)]; exact hLo.z0, a0 := hLo.a0, b0 := hLo.b0 }
  · rcases hpv with q | ⟨g, cap, cur, rfl, g1, g2⟩
    · exact .inl q
    · exact .inr ⟨g, cap, cur, rfl, hkeep _ _ _ g1 (by decide) (by decide) (by decide), g2⟩
  · intro g hg
    simp only [List.mem_cons, List.not_mem_nil, or_false] at hg
    rcases hg with e | e | e
    · rw [e]; exact hLo.p0
    · rw [e]; exact hLo.r0
    · rw [e]; exact hLo.s0
theorem at_any {W : World} {hb sp : Nat} {pv : Value} {P : List Int} (hbx : W.heap[hb]? = some (.cells #[.pointer (some ⟨sp, 0, none⟩), pv] 48 (0, 0))) (hp : Li.Rw W pv P) (hl : P.length ≤ 200) (m : Nat) (hm : m ≤ 255) (a : Int) (ha : atP P m = a) :
    Calls Tryz.prog 24 #[.pointer (some ⟨hb, 0, none⟩), .int .u8 m] W fun e w' => e = .returned (.int .i64 a) ∧ W = w' := by
  obtain ⟨N, hN⟩ : ∃ N, N = P.length := ⟨_, rfl⟩
  obtain ⟨ao, c, rfl, hcell⟩ := rw_form hp hN.symm
  have c1 := (cell_of_row hbx 1).trans (show _ = some (.slice ao N c) from rfl)
  have cm : IntKind.i64.wrap (m : Int) = m := IntWalk.i64_in _ (by omega)
  have hN2 := Lib.hid hN
  unfold atP at ha
  rw [← hN] at ha hl
  clear hN hp hbx
  by_cases h0 : m = 0
  · subst h0
    rw [if_pos (.inl rfl)] at ha
    subst ha
    go_enter Tryz.func24, Tryz.ntmps24
    go_wp2
    go_ret
    exact ⟨rfl, rfl⟩
  · have h0' : ((m : Int) == 0) = false := by simp; omega
    have h0'' : ¬ ((m : Int) = 0) := by omega
    by_cases h1 : N < m
    · rw [if_pos (.inr h1)] at ha
      subst ha
      have hq : decide (N < m) = true := by simp [h1]
      go_enter Tryz.func24, Tryz.ntmps24
      go_wp2
      go_ret
      exact ⟨rfl, rfl⟩
    · rw [if_neg (by omega)] at ha
      subst ha
      obtain ⟨g, rfl, hg⟩ := hcell (m - 1) (by omega)
      have hq : decide (N < m) = false := by simp [h1]
      obtain ⟨j, rfl⟩ : ∃ j, m = j + 1 := ⟨m - 1, by omega⟩
      rw [Nat.add_sub_cancel] at hg ⊢
      have z1 : (((j : Int) + 1) == 0) = false := by simp; omega
      have z2 : decide ((N : Int) < (j : Int) + 1) = false := by simp; omega
      have z3 : IntKind.u8.wrap ((j : Int) + 1 - 1) = j := by unfold IntKind.wrap; simp [IntKind.bits, IntKind.signed]; omega
      have z4 : IntKind.i64.wrap ((j : Int) + 1) = (j : Int) + 1 := IntWalk.i64_in _ (by omega)
      have z5 : j < N := by omega
      clear hcell h0' h0'' h0 h1 hq hm cm
      go_enter Tryz.func24, Tryz.ntmps24
      go_wp2
      go_ret
      exact ⟨rfl, rfl⟩

/-- A header's box is turned. -/
theorem Aw.sideT {p r sp t g : Nat} {qs : Nat → Nat} {v : Av} {s : As} {col : Nat → Nat} {w w' : World} {k0 : Int} {cs : Array Value} (h : Aw T n p r sp qs v s t col w) (hT : 0 < T) (k : Kp [g] w w') (hg : w.heap[g]? = some (.cells cs 81 (0, 0))) (hc : w.cell? ⟨g, 0, none⟩ = some (.int .u8 k0)) (hcs : ∀ (i : Nat) (z : Int), cs[i]? ≠ some (.int .i64 z)) : Aw T n p r sp qs v s t col w' := by
  have hty : ∀ {x : Nat} {cs' : Array Value} {U : TypeId}, w.heap[x]? = some (.cells cs' U (0, 0)) → U ≠ 81 → x ∉ [g] := fun hx hU e => by
    rw [List.mem_singleton] at e
    rw [e, hg] at hx; simp at hx; exact hU hx.2.symm
  have hrow : ∀ {U : TypeId} {sz m : Nat} {x : Value} {xs : List Value}, Gx.Rw U sz 0 w x m xs → U ≠ 81 → Gx.Rw U sz 0 w' x m xs := fun hr hU => hr.keep k fun y hy => by
    obtain ⟨_, cur, hcu⟩ := Gx.Rw.block hr y hy
    exact hty hcu hU
  have hst := h.st
  unfold S13 at hst
  refine { h with st := h.st.keep k (hty hst (by decide)), mws := ⟨fun j hj => (h.mws.one j hj).told k fun y hy => ?_, h.mws.qne, h.mws.vne⟩, dh := h.dh.keepS k ?_, rd := fun i hi d hd => ?_, free := hrow h.free (by decide), walks := hrow h.walks (by decide), docs := hrow h.docs (by decide), mades := hrow h.mades (by decide), sizes := hrow h.sizes (by decide), mr := fun j hj => (h.mr j hj).keep k fun y hy => ?_, sr := fun j hj => (h.sr j hj).keep k fun y hy => ?_, lt := fun j hj d hd y hy => Nat.lt_of_lt_of_le (h.lt j hj d hd y hy) k.size }
  · rw [List.mem_singleton] at hy
    subst hy
    obtain ⟨z1, z2, z3, z4⟩ := (h.mws.one j hj).apart hg (by decide) (by decide) (by decide) (by decide)
    refine ⟨lt_of_block hg, z1, z2, z3, z4, fun e => ?_⟩
    have := (h.mws.one j hj).tab.c0
    rw [e] at hc
    rw [hc] at this
    simp at this
  · obtain ⟨_, cur2, hc2⟩ := Gx.Rw.block h.dh.ww v.db (by rw [Gx.blk_some]; simp)
    exact hty hc2 (by decide)
  · obtain ⟨ao, cap, e1, e2, e3, e4⟩ := (h.rd i hi d hd).form
    refine ⟨ao, cap, e1, e2, e3, fun hne => ?_⟩
    obtain ⟨g', o, q1, q2⟩ := e4 hne
    refine ⟨g', o, q1, fun j hj => kp_cell k ?_ (q2 j hj)⟩
    intro e
    rw [List.mem_singleton] at e
    have := q2 j hj
    rw [e, cell_of_row hg] at this
    exact hcs _ _ this
  · obtain ⟨cur, hcu⟩ := Li.Rw.block (h.mr j hj) y hy
    exact hty hcu (by decide)
  · obtain ⟨cur, hcu⟩ := Li.Rw.block (h.sr j hj) y hy
    exact hty hcu (by decide)
theorem Hm.sideT {B sp hb t g : Nat} {qs : Nat → Nat} {s : As} {P : List Int} {w W W' : World} {k0 : Int} {cs : Array Value} (h : Hm B T n sp hb qs s P t w W) (hT : 0 < T) (k : Kp [g] W W') (hg : W.heap[g]? = some (.cells cs 81 (0, 0))) (hc : W.cell? ⟨g, 0, none⟩ = some (.int .u8 k0)) (hcs : ∀ (i : Nat) (z : Int), cs[i]? ≠ some (.int .i64 z)) (hB : B ≤ g) : Hm B T n sp hb qs s P t w W' := by
  obtain ⟨v, col, pv, hA, hLo, hbx, hpv, hpc, hcb⟩ := h.ex
  have hty : ∀ {x : Nat} {cs' : Array Value} {U : TypeId}, W.heap[x]? = some (.cells cs' U (0, 0)) → U ≠ 81 → x ∉ [g] := fun hx hU e => by
    rw [List.mem_singleton] at e
    rw [e, hg] at hx; simp at hx; exact hU hx.2.symm
  refine ⟨⟨v, col, pv, hA.sideT hT k hg hc hcs, hLo, k.row (hty hbx (by decide)) hbx, hpv.keep k fun y hy => ?_, hpc, hcb⟩, h.ge, h.bel.trans (k.below (Nat.le_trans h.ge (Nat.le_of_lt (lt_of_block hbx))) (by simpa using hB))⟩
  obtain ⟨cur, hcu⟩ := Li.Rw.block hpv y hy
  exact hty hcu (by decide)
theorem hm_at {B sp hb t : Nat} {qs : Nat → Nat} {s : As} {P : List Int} {w W : World} (h : Hm B T n sp hb qs s P t w W) (hl : P.length ≤ 200) (m : Nat) (hm : m ≤ 255) (a : Int) (ha : atP P m = a) :
    Calls Tryz.prog 24 #[.pointer (some ⟨hb, 0, none⟩), .int .u8 m] W fun e w' => e = .returned (.int .i64 a) ∧ W = w' := by
  obtain ⟨v, col, pv, hA, hLo, hbx, hpv, hpc, hcb⟩ := h.ex
  exact at_any hbx hpv hl m hm a ha
theorem atP_bd {H : List Int} {Rs : Nat → Nat → List Int} {O : Obs} {V : Nat → Int} {F : Nat → Nat → Int} {P : List Int} (h : Gd T n H Rs O V F) (hP : Pls O P) (m : Nat) : 0 ≤ atP P m ∧ atP P m < H.length + 1 := by
  rcases atP_ok hP m with e | ⟨y, e, hy⟩
  · rw [e]; omega
  · rw [e]
    cases hO : O y with
    | none => rw [hO] at hy; cases hy
    | some z =>
      obtain ⟨o, rf, sz⟩ := z
      have := h.hp.inn hO
      omega
theorem kidS_at {H : List Int} {P : List Int} {a rf m : Nat} {x : Th} (h : H.getD a 0 / 2048 % 128 = rf) (hm : m = min rf x.tl.length) : kidS P a x H = if x.g then (refS P a x.tl H m).set a (gwO x.c (H.getD a 0)) else refS P a x.tl H m := by
  unfold kidS
  rw [h, Int.toNat_natCast, ← hm]

set_option maxHeartbeats 8000000 in
theorem made_any (w : World) (T0 : Cl.Tab w) (HMk : Hid (∀ (sp : Nat) (qs : Nat → Nat), CMk w.heap.size T n (w.heap.size + 1) w.heap.size sp qs)) (hn1 : 1 ≤ n) (hn2 : n ≤ 12) (hT1 : 1 ≤ T) (hT4 : T ≤ 4) (ao : Option Addr) (cap : Nat) (l : List Th) (hl : l.length ≤ 60) (hA : Tgs w ao l) :
    Calls Tryz.prog 8 #[.int .u8 n, .int .u8 T, .slice ao l.length cap] w fun e w' => ∃ sp hb qs t, t ≤ 100000 ∧ e = .returned (.tuple #[.pointer (some ⟨hb, 0, none⟩), .bool true]) ∧ Hm w.heap.size T n sp hb qs ({ (makesN T n l l.length).1 with H := kidsN (makesN T n l l.length).2 l (makesN T n l l.length).1.H l.length } : As) (makesN T n l l.length).2 t w w' := by
  have HBg := Lib.hid (begins_many w T0 T n hT1 hT4 hn1 hn2)
  have HAc := Lib.hid hA
  obtain ⟨M, hM⟩ : ∃ M, M = l.length := ⟨_, rfl⟩
  have HM := Lib.hid hM
  rw [← hM] at hl ⊢
  have c1 : IntKind.i64.wrap (n : Int) = n := IntWalk.i64_in n (by omega)
  have c2 : IntKind.i64.wrap (T : Int) = T := IntWalk.i64_in T (by omega)
  clear hA hM T0
  go_enter Tryz.func8, Tryz.ntmps8
  go_wp2_with fail
  refine HBg.out.mono ?_
  rintro e w1 ⟨sp, f, db, dc, qs, rfl, hA1, hk1, hlo⟩
  have HMk' := Lib.hid (HMk.out sp qs)
  have HB1 := Lib.hid (And.intro hA1 (And.intro hk1 hlo))
  clear hA1 hk1 hlo HBg HMk c1 c2
  go_upto_region 5 with (fail)
  obtain ⟨w2, hw2⟩ : ∃ w2, w2 = w1.alloc (.cells #[.pointer (some ⟨sp, 0, none⟩), .slice none 0 0] 48) := ⟨_, rfl⟩
  rw [← hw2]
  obtain ⟨hb, hhb⟩ : ∃ hb, hb = w1.heap.size := ⟨_, rfl⟩
  rw [← hhb]
  have H2 : Hid (∃ t, t ≤ 1 + 600 * 0 ∧ Hm w.heap.size T n sp hb qs (makesN T n l 0).1 (makesN T n l 0).2 t w w2 ∧ Mok T n 0 (makesN T n l 0).1) := Lib.hid (by
    have ka : Kp [] w1 w2 := by rw [hw2]; exact (Kp.refl _ _).alloc _
    have hlt : ∀ g, g < w1.heap.size → (fun g => if g < w1.heap.size then colB g else 1000) g = colB g := fun g hg => if_pos hg
    refine ⟨1, by omega, ⟨⟨_, _, .slice none 0 0, (HB1.out.1.recol (by omega) hlt).on ka, HB1.out.2.2, ?_, Li.Rw.nil _, fun g hg => by simp [Li.blk_nil] at hg, ?_⟩, ?_, (HB1.out.2.1.trans ka).below (Nat.le_refl _) (by simp)⟩, ⟨fun i hi x hx => ?_, fun i hi => ⟨by simp [makesN, As0], rfl⟩⟩⟩
    · rw [hw2, hhb]; exact heap_alloc_new _ _
    · rw [hhb]; exact if_neg (by omega)
    · rw [hhb]; exact HB1.out.2.1.size
    · simp [makesN, As0] at hx)
  clear hw2 hhb HB1
  go_wp2_with fail
  go_loopg [11] M (fun g v11 wr => ∃ k : Nat, k + g = M ∧ v11 = .int .i64 k ∧ Hid (∃ t, t ≤ 1 + 600 * k ∧ Hm w.heap.size T n sp hb qs (makesN T n l k).1 (makesN T n l k).2 t w wr ∧ Mok T n k (makesN T n l k).1))
  case atStart => exact ⟨0, by omega, rfl, H2⟩
  case round =>
    obtain ⟨k, hk, rfl, HR⟩ := hrel
    clear H2
    obtain ⟨t, ht, hHm, hMo⟩ := HR.out
    obtain ⟨v, col, pv, hA, hLo, hbx, hpv, hpc, hcb⟩ := hHm.ex
    by_cases hkM : k < M
    · obtain ⟨b, o, rfl, hx, hxb⟩ := HAc.out k (by rw [← HM.out]; exact hkM)
      have HX := Lib.hid (show makesN T n l (k + 1) = makeS T n (makesN T n l k) (l.getD k Th0) from rfl)
      generalize makesN T n l k = y at *
      generalize l.getD k Th0 = x at *
      obtain ⟨s, P⟩ := y
      simp only at hA hMo hpv
      have kB := kp_of_below hHm.bel
      obtain ⟨q0, q1, q2, q3, q4, ao2, cp, q5, -⟩ := hx.keep kB
      obtain ⟨u0, u1, u2, u3, u4⟩ := hxb
      obtain ⟨i, hi0⟩ : ∃ i : Nat, (x.ow : Int) % (T : Int) = i := ⟨x.ow % T, by omega⟩
      have hi : i < T := by have := Int.emod_lt_of_pos (x.ow : Int) (show (0 : Int) < T by omega); omega
      have hTn : ¬ ((T : Int) = 0) := by omega
      obtain ⟨z, hz0⟩ : ∃ z : Nat, (x.sz : Int) % 40 = z := ⟨x.sz % 40, by omega⟩
      obtain ⟨rf, hrf0⟩ : ∃ rf : Nat, (x.rf : Int) % ((z : Int) + 1) = rf := ⟨x.rf % (z + 1), by push_cast; rfl⟩
      have hzb : z < 40 := by omega
      have hrb : rf ≤ z := by have := Int.emod_lt_of_pos (x.rf : Int) (show (0 : Int) < (z : Int) + 1 by omega); omega
      have c0 : IntKind.i64.wrap (x.ow : Int) = x.ow := IntWalk.i64_in _ (by omega)
      have c1 : IntKind.i64.wrap (T : Int) = T := IntWalk.i64_in _ (by omega)
      have c2 : IntKind.i64.wrap (x.sz : Int) = x.sz := IntWalk.i64_in _ (by omega)
      have c3 : IntKind.i64.wrap (x.rf : Int) = x.rf := IntWalk.i64_in _ (by omega)
      obtain ⟨bb, cc, ee, hcc, -, hcell⟩ := rowF_at hA.mades (by omega)
      obtain ⟨L, hL⟩ : ∃ L, L = (s.made i).length := ⟨_, rfl⟩
      obtain ⟨am, cm, hms, -⟩ := rw_form (hA.mr i hi) hL.symm
      have x11 := (hA.cell (i := 11) (by decide)).trans (show _ = some (.slice (some ⟨bb, 0, none⟩) T cc) from by rw [ee])
      have y11 := (hcell i hi).trans (show _ = some (.slice am L cm) from by rw [hms])
      go_upto_region 9 with (fail)
      obtain ⟨w3, hw3⟩ : ∃ w3, w3 = wr.alloc (.cells #[.int .u8 x.ow, .int .u8 x.rf, .int .u8 x.sz, .bool x.g, .int .u8 x.c, .slice ao2 x.tl.length cp] 77) := ⟨_, rfl⟩
      have ka : Kp [] wr w3 := by rw [hw3]; exact (Kp.refl _ _).alloc _
      have bX : w3.heap[wr.heap.size]? = some (.cells #[.int .u8 x.ow, .int .u8 x.rf, .int .u8 x.sz, .bool x.g, .int .u8 x.c, .slice ao2 x.tl.length cp] 77 (0, 0)) := by rw [hw3]; exact heap_alloc_new _ _
      rw [← hw3]
      obtain ⟨xb, hxbn⟩ : ∃ xb, xb = wr.heap.size := ⟨_, rfl⟩
      rw [← hxbn] at bX ⊢
      have e0 := (cell_of_row bX 0).trans (show _ = some (.int .u8 x.ow) from rfl)
      have e1 := (cell_of_row bX 1).trans (show _ = some (.int .u8 x.rf) from rfl)
      have e2 := (cell_of_row bX 2).trans (show _ = some (.int .u8 x.sz) from rfl)
      have x11 := kp_cell ka (by simp) x11
      have y11 := kp_cell ka (by simp) y11
      obtain ⟨col3, hcold, hcnew⟩ : ∃ col3 : Nat → Nat, (∀ g, g < wr.heap.size → col3 g = col g) ∧ ∀ g, wr.heap.size ≤ g → col3 g = 1000 := ⟨fun g => if g < wr.heap.size then col g else 1000, fun g hg => if_pos hg, fun g hg => if_neg (by omega)⟩
      have hA3 := (hA.recol (by omega) hcold).on ka
      have hln := hMo.ln i hi
      have HCall := Lib.hid (HMk'.out v s t col3 w3 i rf z hA3 (by omega) hi (by omega) (by omega) hLo (Nat.le_trans hHm.bel.size ka.size) hrb (by omega))
      have hhl : hb < wr.heap.size := lt_of_block hbx
      have HS3 : Hid (w3.heap[hb]? = some (.cells #[.pointer (some ⟨sp, 0, none⟩), pv] 48 (0, 0)) ∧ Li.Rw w3 pv P ∧ (∀ g ∈ Li.blk pv, col3 g = 1000 ∧ w.heap.size ≤ g) ∧ col3 hb = 1000 ∧ w.heap.size ≤ hb ∧ Below w.heap.size w w3 ∧ t ≤ 1 + 600 * k ∧ Mok T n (k + 1) (madeS T n s i rf z) ∧ hb < w3.heap.size ∧ ∀ g ∈ Li.blk pv, g < w3.heap.size) := Lib.hid (by
        have hpl : ∀ g ∈ Li.blk pv, g < wr.heap.size := fun g hg => by
          rcases hpv with ⟨rfl, _⟩ | ⟨g', cap', cur', rfl, h1, _⟩
          · simp [Li.blk_nil] at hg
          · rw [Li.blk_some, List.mem_singleton] at hg
            rw [hg]; exact lt_of_block h1
        refine ⟨ka.row (by simp) hbx, hpv.keep0 ka, fun g hg => ⟨(hcold g (hpl g hg)).trans (hpc g hg).1, (hpc g hg).2⟩, (hcold hb hhl).trans hcb, hHm.ge, hHm.bel.trans (ka.below hHm.bel.size (by simp)), ht, hMo.made hA.fit hi (by omega) (by omega) (by omega), Nat.lt_of_lt_of_le hhl ka.size, fun g hg => Nat.lt_of_lt_of_le (hpl g hg) ka.size⟩)
      have HX2 : Hid (makesN T n l (k + 1) = (madeS T n s i rf z, P ++ [(pmakeS T 0 n i (s.wk i) rf z (s.H, s.Rs i)).2.getD 0])) := Lib.hid (by
        rw [HX.out]
        unfold makeS rfO szO
        have h1 : x.ow % T = i := by exact_mod_cast hi0
        have h2 : x.sz % 40 = z := by omega
        have h3 : x.rf % (z + 1) = rf := by exact_mod_cast hrf0
        rw [h1, h2, h3])
      have Hi := Lib.hid (And.intro hi (And.intro hL bX))
      clear hA hA3 hLo hbx hpv hpc hcb hHm hMo HR hx kB q0 q1 q2 q3 q4 q5 hcell ee hms ka hw3 hxbn hcold hcnew hhl HX hln hL bX
      have hzw : IntKind.i64.wrap ((z : Int) + 1) = (z : Int) + 1 := IntWalk.i64_in _ (by omega)
      have hz1 : ¬ ((z : Int) + 1 = 0) := by omega
      go_upto_region 10 with (fail)
      rw [hi0]
      go_upto_region 11 with (fail)
      rw [hz0]
      go_wp2_with fail
      rw [hrf0]
      refine HCall.out.mono ?_
      rintro e w4 ⟨rfl, v', col', hA4, hLo4, hBK⟩
      obtain ⟨bb4, cc4, ee4, hcc4, -, hcell4⟩ := rowF_at hA4.mades (by omega)
      obtain ⟨at_, hat⟩ : ∃ at_, at_ = (pmakeS T 0 n i (s.wk i) rf z (s.H, s.Rs i)).2.getD 0 := ⟨_, rfl⟩
      obtain ⟨L4, hL4⟩ : ∃ L4, L4 = ((madeS T n s i rf z).made i).length := ⟨_, rfl⟩
      obtain ⟨am4, cm4, hms4, hget4⟩ := rw_form (hA4.mr i hi) hL4.symm
      have x12 := (hA4.cell (i := 11) (by decide)).trans (show _ = some (.slice (some ⟨bb4, 0, none⟩) T cc4) from by rw [ee4])
      have y12 := (hcell4 i hi).trans (show _ = some (.slice am4 L4 cm4) from by rw [hms4])
      have hways : (L4 = L ∧ at_ = 0) ∨ (L4 = L + 1 ∧ ∃ g, am4 = some ⟨g, 0, none⟩ ∧ w4.cell? ⟨g, L, none⟩ = some (.int .i64 at_)) := by
        rcases made_row (T := T) (n := n) s i rf z with ⟨r1, r2⟩ | ⟨q, r1, r2⟩
        · refine .inl ⟨by rw [hL4, r2, Hi.out.2.1], by rw [hat, r1]; rfl⟩
        · have hLL : L4 = L + 1 := by rw [hL4, r2, Hi.out.2.1]; simp
          obtain ⟨g, e1, e2⟩ := hget4 L (by omega)
          refine .inr ⟨hLL, g, e1, ?_⟩
          rw [e2, r2, hat, r1, Hi.out.2.1]
          simp [List.getD]
      have hbx4 := (hBK.st hb HS3.out.2.2.2.2.2.2.2.2.1 HS3.out.2.2.2.1).trans HS3.out.1
      have hbel4 := HS3.out.2.2.2.2.2.1.trans hBK.bel
      have hpv4 : Li.Rw w4 pv P := by
        rcases HS3.out.2.1 with h | ⟨g, cap', cur', rfl, h1, h2⟩
        · exact .inl h
        · refine .inr ⟨g, cap', cur', rfl, ?_, h2⟩
          exact (hBK.st g (HS3.out.2.2.2.2.2.2.2.2.2 g (by rw [Li.blk_some]; simp)) (HS3.out.2.2.1 g (by rw [Li.blk_some]; simp)).1).trans h1
      have hz4 := hBK.bel.size
      have H4 : Hid (Aw T n (w.heap.size + 1) w.heap.size sp qs v' (madeS T n s i rf z) (t + 600) col' w4 ∧ Lo w.heap.size T (w.heap.size + 1) w.heap.size sp qs v' ∧ (∀ g ∈ Li.blk pv, col' g = 1000 ∧ w.heap.size ≤ g) ∧ col' hb = 1000) := Lib.hid ⟨hA4, hLo4, fun g hg => ⟨(hBK.agr g (HS3.out.2.2.2.2.2.2.2.2.2 g hg)).trans (HS3.out.2.2.1 g hg).1, (HS3.out.2.2.1 g hg).2⟩, (hBK.agr hb HS3.out.2.2.2.2.2.2.2.2.1).trans HS3.out.2.2.2.1⟩
      have HX4 : Hid (makesN T n l (k + 1) = (madeS T n s i rf z, P ++ [at_])) := Lib.hid (by rw [HX2.out, hat])
      have HB4 := Lib.hid (And.intro hbx4 (And.intro hpv4 hbel4))
      have p0 := (cell_of_row hbx4 1).trans (show _ = some pv from rfl)
      have p1 := free_of_row hbx4 1
      clear hA4 hLo4 hBK hcell4 ee4 hms4 hget4 hL4 hat hbx4 hbel4 hpv4 HCall HX2 hz4 x11 y11 e0 e1 e2
      have hPl : P.length = k := by have := makesN_len (T := T) (n := n) l (k + 1); rw [HX4.out] at this; simpa using this
      obtain ⟨g5, cap5, w5, hrun, hr5, hk5, hg5⟩ := app_one hPl at_ HB4.out.2.1 (by omega) 46
      have hnb : hb ∉ Li.blk pv := fun e => by
        obtain ⟨cur, hc⟩ := Li.Rw.block HB4.out.2.1 hb e
        rw [HB4.out.1] at hc; simp at hc
      have p2 := kp_cell hk5 hnb p0
      have p3 := free_of_row (hk5.row hnb HB4.out.1) 1
      have HRun := Lib.hid hrun
      have HN : Hid (∃ t, t ≤ 1 + 600 * (k + 1) ∧ Hm w.heap.size T n sp hb qs (makesN T n l (k + 1)).1 (makesN T n l (k + 1)).2 t w (w5.setCell ⟨hb, 1, none⟩ (.slice (some ⟨g5, 0, none⟩) (k + 1) cap5)) ∧ Mok T n (k + 1) (makesN T n l (k + 1)).1) := Lib.hid (by
        rw [HX4.out]
        have ks : Kp [hb] w5 (w5.setCell ⟨hb, 1, none⟩ (.slice (some ⟨g5, 0, none⟩) (k + 1) cap5)) := (Kp.refl _ _).setCell (.inl (by simp)) _
        have K : Kp (hb :: Li.blk pv) w4 (w5.setCell ⟨hb, 1, none⟩ (.slice (some ⟨g5, 0, none⟩) (k + 1) cap5)) := (hk5.mono fun y hy _ => by simp [hy]).trans (ks.mono fun y hy _ => by simp at hy; simp [hy])
        obtain ⟨col6, hold6, hnew6⟩ : ∃ col6 : Nat → Nat, (∀ g, g < w4.heap.size → col6 g = col' g) ∧ ∀ g, w4.heap.size ≤ g → col6 g = 1000 := ⟨fun g => if g < w4.heap.size then col' g else 1000, fun g hg => if_pos hg, fun g hg => if_neg (by omega)⟩
        have hlt : hb < w4.heap.size := lt_of_block HB4.out.1
        have hS : ∀ g ∈ hb :: Li.blk pv, col6 g = 1000 ∧ ∃ cur U, w4.heap[g]? = some (.cells cur U (0, 0)) ∧ U ≠ 99 ∧ U ≠ 57 ∧ U ≠ 172 ∧ U ≠ 44 := fun g hg => by
          rw [List.mem_cons] at hg
          rcases hg with e | e
          · rw [e]; exact ⟨(hold6 hb hlt).trans H4.out.2.2.2, _, _, HB4.out.1, by decide, by decide, by decide, by decide⟩
          · obtain ⟨cur, hc⟩ := Li.Rw.block HB4.out.2.1 g e
            exact ⟨(hold6 g (lt_of_block hc)).trans (H4.out.2.2.1 g e).1, _, _, hc, by decide, by decide, by decide, by decide⟩
        have hA6 := (H4.out.1.recol (by omega) hold6).side (by omega) K hS
        have hB4 : w.heap.size ≤ w4.heap.size := HB4.out.2.2.size
        have hk0 : hb ≠ g5 := fun e => by
          rcases hg5 with q | q
          · exact hnb (e ▸ q)
          · omega
        refine ⟨t + 600, by have := HS3.out.2.2.2.2.2.2.1; omega, ⟨⟨v', col6, _, hA6, H4.out.2.1, ?_, hr5.keep ks ?_, fun g hg => ?_, (hold6 hb hlt).trans H4.out.2.2.2⟩, HS3.out.2.2.2.2.1, HB4.out.2.2.trans (K.below hB4 ?_)⟩, HS3.out.2.2.2.2.2.2.2.1⟩
        · rw [heap_setCell_same _ _ _ _ _ _ (hk5.row hnb HB4.out.1)]; rfl
        · rw [Li.blk_some]; simpa using fun e => hk0 e.symm
        · rw [Li.blk_some, List.mem_singleton] at hg
          rw [hg]
          rcases hg5 with q | q
          · obtain ⟨cur, hc⟩ := Li.Rw.block HB4.out.2.1 g5 q
            exact ⟨(hold6 g5 (lt_of_block hc)).trans (H4.out.2.2.1 g5 q).1, (H4.out.2.2.1 g5 q).2⟩
          · exact ⟨hnew6 g5 q, by omega⟩
        · intro g hg
          rw [List.mem_cons] at hg
          rcases hg with e | e
          · rw [e]; exact HS3.out.2.2.2.2.1
          · exact (H4.out.2.2.1 g e).2)
      clear hrun hr5 hk5 hg5 HS3 H4 HX4 HB4 hnb
      rcases hways with ⟨rfl, rfl⟩ | ⟨rfl, g, rfl, hcg⟩
      · go_upto_region 17 with (fail)
        go_wp2_with (at_builtin; refine Gx.wpList_append_eq rfl (.tmp 98) (.tmp 100) 46 rfl _ _ _ rfl rfl HRun.out ?_)
        go_roundg (M - (k + 1))
        case rel => exact ⟨k + 1, by omega, by go_num, HN⟩
        case measure => omega
      · go_upto_region 17 with (fail)
        go_wp2_with (at_builtin; refine Gx.wpList_append_eq rfl (.tmp 98) (.tmp 100) 46 rfl _ _ _ rfl rfl HRun.out ?_)
        go_roundg (M - (k + 1))
        case rel => exact ⟨k + 1, by omega, by go_num, HN⟩
        case measure => omega
    · have ekM : k = M := by omega
      rw [ekM] at hA hMo hpv hHm ht
      obtain ⟨O, g1, g2, g3⟩ := makes_good hT1 hT4 hn2 l M
      generalize hy : makesN T n l M = y at *
      obtain ⟨s, P⟩ := y
      have HY := Lib.hid hy
      clear hy
      simp only at hA hMo hpv g1 g2 g3
      have HG := Lib.hid (And.intro g1 (And.intro g2 g3))
      have H2 : Hid (∃ t, t ≤ 40000 + 100 * 0 ∧ Hm w.heap.size T n sp hb qs ({ s with H := kidsN P l s.H 0 } : As) P t w wr) := Lib.hid ⟨t, by omega, hHm⟩
      clear hA hMo hpv hHm ht HR g1 g2 g3 hLo hbx hpc hcb HMk' ekM
      go_wp2_with fail
      clear hkM hk
      go_loopg [17] M (fun g v17 wr => ∃ k : Nat, k + g = M ∧ v17 = .int .i64 k ∧ Hid (∃ t, t ≤ 40000 + 100 * k ∧ Hm w.heap.size T n sp hb qs ({ s with H := kidsN P l s.H k } : As) P t w wr))
      case atStart => exact ⟨0, by omega, rfl, H2⟩
      case round =>
        obtain ⟨k2, hk2, rfl, HR⟩ := hrel
        clear H2
        obtain ⟨t, ht, hHm⟩ := HR.out
        by_cases hkM : k2 < M
        · obtain ⟨b, o, rfl, hx, hxb⟩ := HAc.out k2 (by rw [← HM.out]; exact hkM)
          obtain ⟨v, col, pv, hA, hLo, hbx, hpv, hpc, hcb⟩ := hHm.ex
          have hfst : ∀ wq, Kp [] w wq → True := fun _ _ => trivial
          have kB := kp_of_below hHm.bel
          obtain ⟨q0, q1, q2, q3, q4, ao2, cp, q5, q6⟩ := hx
          have HXw := Lib.hid (And.intro q3 (And.intro q4 (And.intro q5 q6)))
          have q5 := kp_cell kB (by simp) q5
          obtain ⟨u0, u1, u2, u3, u4⟩ := hxb
          obtain ⟨ap, cpv, rfl, hget⟩ := rw_form hpv HG.out.2.2
          obtain ⟨gp, rfl, hcp⟩ := hget k2 hkM
          have p1 := (cell_of_row hbx 1).trans (show _ = some (.slice (some ⟨gp, 0, none⟩) M cpv) from rfl)
          obtain ⟨V, F, hgd⟩ := (Gd.of HG.out.1).kids (by omega) HG.out.2.1 l k2 (by rw [HG.out.2.2]; omega)
          have hmem : P.getD k2 0 ∈ P := by
            rw [List.getD_eq_getElem?_getD, List.getElem?_eq_getElem (show k2 < P.length by rw [HG.out.2.2]; exact hkM)]
            exact List.getElem_mem _
          have HS := Lib.hid (show kidsN P l s.H (k2 + 1) = if P.getD k2 0 = 0 then kidsN P l s.H k2 else kidS P (P.getD k2 0).toNat (l.getD k2 Th0) (kidsN P l s.H k2) from rfl)
          generalize kidsN P l s.H k2 = Hk at *
          generalize l.getD k2 Th0 = x at *
          rcases HG.out.2.1 _ hmem with e0 | ⟨a, ea, hOa⟩
          · rw [e0] at hcp
            have HN : Hid (∃ t, t ≤ 40000 + 100 * (k2 + 1) ∧ Hm w.heap.size T n sp hb qs ({ s with H := kidsN P l s.H (k2 + 1) } : As) P t w wr) := Lib.hid ⟨t, by omega, by rw [HS.out, if_pos e0]; exact hHm⟩
            clear hHm hA hLo hbx hpv hpc hcb hgd kB q0 q1 q2 q3 q4 q5 q6 hget HR HS hmem e0
            go_wp2_with fail
            go_roundg (M - (k2 + 1))
            case rel => exact ⟨k2 + 1, by omega, by go_num, HN⟩
            case measure => omega
          · rw [ea] at hcp
            cases hO : O a with
            | none => rw [hO] at hOa; cases hOa
            | some zz =>
              obtain ⟨oo, rf, sz⟩ := zz
              have hin := hgd.hp.inn hO
              have hlenH := hgd.hp.len
              obtain ⟨kk, cc, hkk, hcc, hTk⟩ : ∃ kk cc : Nat, kk ≤ 3 ∧ cc ≤ 1 ∧ ∀ wq, Calls Tryz.prog 28 #[.int .u64 (Hk.getD a 0)] wq fun e w' => e = .returned (.tuple #[.agg #[.int .u8 kk, .int .u8 cc, .bool false, .bool false, .int .u8 oo, .int .u8 rf, .int .u8 sz], .int .i64 0]) ∧ Kp [] wq w' := by
                obtain ⟨k1, c1, _, _, e1, e2, e3⟩ := hgd.word' (by omega) hO
                exact ⟨k1, c1, e1, e2, e3⟩
              have HTk := Lib.hid (hTk wr)
              have ha0 : 3 + T + n ≤ a := by have := hin.1; unfold hd at this; omega
              have hne : ¬ ((a : Int) = 0) := by omega
              have hne' : ((a : Int) == 0) = false := by simp; omega
              have x6 := (hA.cell (i := 6) (by decide)).trans (show _ = some (.slice (some ⟨v.db, 0, none⟩) (3 + T + 33 * n) v.dc) from by rw [hA.f6])
              have xa : wr.cell? ⟨v.db, a, none⟩ = some (.int .u64 (Hk.getD a 0)) := hA.dh.cell (k := a) (by show a < Hk.length; omega)
              have haN : a < 3 + T + 33 * n := by omega
              generalize Hk.getD a 0 = X at *
              obtain ⟨N, hNN⟩ : ∃ N, N = 3 + T + 33 * n := ⟨_, rfl⟩
              rw [← hNN] at x6 haN
              have HNN := Lib.hid hNN
              clear hNN hTk
              obtain ⟨h1, h2, h3, -⟩ := hgd.head (by omega) hO
              have HGd := Lib.hid (And.intro hgd (And.intro hO (And.intro hin (And.intro hlenH (And.intro ha0 (And.intro h1 (And.intro h2 h3)))))))
              have HHm := Lib.hid hHm
              have HEa := Lib.hid (And.intro ea hne)
              clear hHm hA hLo hbx hpv hpc hcb hgd kB q0 q1 q2 q3 q4 q6 hget HR hmem hO hlenH h1 h2 h3 ea hOa
              go_upto_region 24 with ((with_reducible refine HTk.out.mono ?_); rintro e w4 ⟨rfl, k4⟩)
              obtain ⟨w5, hw5⟩ : ∃ w5, w5 = w4.alloc (.cells #[.int .u8 kk, .int .u8 cc, .bool false, .bool false, .int .u8 oo, .int .u8 rf, .int .u8 sz] 81) := ⟨_, rfl⟩
              have hb5 : w5.heap[w4.heap.size]? = some (.cells #[.int .u8 kk, .int .u8 cc, .bool false, .bool false, .int .u8 oo, .int .u8 rf, .int .u8 sz] 81 (0, 0)) := by rw [hw5]; exact heap_alloc_new _ _
              have k5 : Kp [] w4 w5 := by rw [hw5]; exact (Kp.refl _ _).alloc _
              rw [← hw5]
              obtain ⟨xh, hxh⟩ : ∃ xh, xh = w4.heap.size := ⟨_, rfl⟩
              rw [← hxh] at hb5 ⊢
              have HXh : Hid (w.heap.size ≤ xh) := Lib.hid (by rw [hxh]; exact Nat.le_trans HHm.out.bel.size k4.size)
              obtain ⟨m, hm⟩ : ∃ m, m = min rf x.tl.length := ⟨_, rfl⟩
              have HMm := Lib.hid hm
              have hmr : m ≤ rf := by omega
              have hml : m ≤ x.tl.length := by omega
              have H5 : Hid (∃ t', t' ≤ t + 0 ∧ Hm w.heap.size T n sp hb qs ({ s with H := refS P a x.tl Hk 0 } : As) P t' w w5 ∧ w5.heap[xh]? = some (.cells #[.int .u8 kk, .int .u8 cc, .bool false, .bool false, .int .u8 oo, .int .u8 rf, .int .u8 sz] 81 (0, 0))) := Lib.hid ⟨t, by omega, (HHm.out.on k4).on k5, hb5⟩
              clear hw5 hb5 k5 k4 hxh x6 xa hcp p1 HHm HTk
              have hrf127 : rf ≤ 127 := by have := HGd.out.2.2.1; omega
              have crf : IntKind.i64.wrap (rf : Int) = rf := IntWalk.i64_in _ (by omega)
              obtain ⟨LT, hLT⟩ : ∃ LT, LT = x.tl.length := ⟨_, rfl⟩
              have HLT := Lib.hid hLT
              rw [← hLT] at hml q5
              have hmw : (rf : Int) ≤ m ∨ (LT : Int) ≤ m := by omega
              clear hm hLT
              go_wp2_with fail
              go_loopg [21] m (fun g v21 wr2 => ∃ j : Nat, j + g = m ∧ v21 = .int .i64 j ∧ Hid (∃ t', t' ≤ t + j ∧ Hm w.heap.size T n sp hb qs ({ s with H := refS P a x.tl Hk j } : As) P t' w wr2 ∧ wr2.heap[xh]? = some (.cells #[.int .u8 kk, .int .u8 cc, .bool false, .bool false, .int .u8 oo, .int .u8 rf, .int .u8 sz] 81 (0, 0))))
              case atStart => exact ⟨0, by omega, rfl, H5⟩
              case round =>
                obtain ⟨j, hj, rfl, HR2⟩ := hrel
                clear H5
                obtain ⟨t', ht', hHm2, hb2⟩ := HR2.out
                have kB2 := kp_of_below hHm2.bel
                have e5 := (cell_of_row hb2 5).trans (show _ = some (.int .u8 rf) from rfl)
                have q5 := kp_cell kB2 (by simp) HXw.out.2.2.1
                rw [← HLT.out] at q5
                by_cases hjm : j < m
                · obtain ⟨gb, qb, rfl, q6⟩ := HXw.out.2.2.2 j (by have := HLT.out; omega)
                  have q6 := kp_cell kB2 (by simp) q6
                  have hyb := u4 j
                  have hat := hm_at hHm2 (by rw [HG.out.2.2]; omega) (x.tl.getD j 0) hyb _ rfl
                  obtain ⟨b0, b1⟩ := atP_bd HGd.out.1 HG.out.2.1 (x.tl.getD j 0)
                  have hfit : Fit T n (refS P a x.tl Hk (j + 1)) s.Rs := by
                    obtain ⟨F', hF⟩ := HGd.out.1.refs HG.out.2.1 HGd.out.2.1 x.tl (j + 1) (by have := HGd.out.2.2.1; omega)
                    exact hF.hp.fit
                  have hlen := HGd.out.2.2.2.1
                  have hin := HGd.out.2.2.1
                  have hset := hm_set hHm2 (by omega) (by omega) (a + 1 + j) (by omega) (atP P (x.tl.getD j 0)) b0 (by omega) hfit
                  generalize hA' : atP P (x.tl.getD j 0) = A' at *
                  obtain ⟨A, rfl⟩ := Int.eq_ofNat_of_zero_le b0
                  have HS2 : Hid (∀ wq, ({ ({ s with H := refS P a x.tl Hk j } : As) with H := (refS P a x.tl Hk j).set (a + 1 + j) (A : Int) } : As) = ({ s with H := refS P a x.tl Hk (j + 1) } : As) ∧ wq = (wq : World)) := Lib.hid fun wq => ⟨by
                    show _ = ({ s with H := (refS P a x.tl Hk j).set (a + 1 + j) (atP P (x.tl.getD j 0)) } : As)
                    rw [hA'], rfl⟩
                  have HSet := Lib.hid hset
                  have HAt := Lib.hid hat
                  have HB2 := Lib.hid hb2
                  have cw : IntKind.u64.wrap (A : Int) = A := by unfold IntKind.wrap; simp [IntKind.bits, IntKind.signed]; omega
                  have ca1 : IntKind.i64.wrap ((a : Int) + 1) = (a : Int) + 1 := IntWalk.i64_in _ (by omega)
                  have ca2 : IntKind.i64.wrap ((a : Int) + 1 + j) = (a : Int) + 1 + j := IntWalk.i64_in _ (by omega)
                  have hjr : j < rf := by omega
                  have hjl : j < LT := by omega
                  generalize x.tl.getD j 0 = yb at *
                  clear hat hset hHm2 hb2 hfit hA' b0 b1 hlen hin HR2
                  go_wp2_with fail
                  refine HAt.out.mono ?_
                  rintro e w7 ⟨rfl, rfl⟩
                  go_wp2_with fail
                  refine HSet.out.mono ?_
                  rintro e w8 ⟨rfl, hm8, hkeep8⟩
                  rw [(HS2.out w8).1] at hm8
                  have HN : Hid (∃ t', t' ≤ t + (j + 1) ∧ Hm w.heap.size T n sp hb qs ({ s with H := refS P a x.tl Hk (j + 1) } : As) P t' w w8 ∧ w8.heap[xh]? = some (.cells #[.int .u8 kk, .int .u8 cc, .bool false, .bool false, .int .u8 oo, .int .u8 rf, .int .u8 sz] 81 (0, 0))) := Lib.hid ⟨t' + 1, by omega, hm8, hkeep8 _ _ _ HB2.out (by decide) (by decide) (by decide)⟩
                  clear hm8 hkeep8 HS2 HSet HAt HB2 e5 q5 q6 kB2
                  go_wp2_with fail
                  go_roundg (m - (j + 1))
                  case rel => exact ⟨j + 1, by omega, by go_num, HN⟩
                  case measure => omega
                · have ejm : j = m := by omega
                  have q3 := kp_cell kB2 (by simp) HXw.out.1
                  have q4 := kp_cell kB2 (by simp) HXw.out.2.1
                  have hin := HGd.out.2.2.1
                  have hH0 : Hm w.heap.size T n sp hb qs ({ s with H := refS P a x.tl Hk m } : As) P t' w wr := by rw [← ejm]; exact hHm2
                  have hkid := kidS_at (P := P) (a := a) (x := x) (H := Hk) (by rw [HGd.out.2.2.2.2.2.2.1]) HMm.out
                  have hdec : decide (j < rf) = false ∨ (decide (j < rf) = true ∧ decide (j < LT) = false) := by
                    by_cases hq : j < rf
                    · exact .inr ⟨by simp [hq], by simp; omega⟩
                    · exact .inl (by simp [hq])
                  have HQ : Hid (decide (j < rf) = false ∨ (decide (j < rf) = true ∧ decide (j < LT) = false)) := Lib.hid hdec
                  have HK := Lib.hid hkid
                  have HH0 := Lib.hid hH0
                  clear hkid hH0 hHm2 HR2 hdec kB2 ejm hmw hjm
                  cases hg : x.g with
                  | false =>
                    rw [hg] at q3
                    have HN : Hid (∃ t, t ≤ 40000 + 100 * (k2 + 1) ∧ Hm w.heap.size T n sp hb qs ({ s with H := kidsN P l s.H (k2 + 1) } : As) P t w wr) := Lib.hid ⟨t', by omega, by
                      rw [HS.out, if_neg (by rw [HEa.out.1]; exact HEa.out.2), HEa.out.1, Int.toNat_natCast, HK.out, hg]
                      exact HH0.out⟩
                    clear hg HK HH0 HS
                    rcases HQ.out with hq | ⟨hq, hq2⟩
                    · go_wp2_with fail
                      go_roundg (M - (k2 + 1))
                      case rel => exact ⟨k2 + 1, by omega, by go_num, HN⟩
                      case measure => omega
                    · go_wp2_with fail
                      go_roundg (M - (k2 + 1))
                      case rel => exact ⟨k2 + 1, by omega, by go_num, HN⟩
                      case measure => omega
                  | true =>
                    rw [hg] at q3
                    have e0 := (cell_of_row hb2 0).trans (show _ = some (.int .u8 kk) from rfl)
                    have e1 := (cell_of_row hb2 1).trans (show _ = some (.int .u8 cc) from rfl)
                    have e2 := (cell_of_row hb2 2).trans (show _ = some (.bool false) from rfl)
                    have e3 := (cell_of_row hb2 3).trans (show _ = some (.bool false) from rfl)
                    have e4 := (cell_of_row hb2 4).trans (show _ = some (.int .u8 oo) from rfl)
                    have e6 := (cell_of_row hb2 6).trans (show _ = some (.int .u8 sz) from rfl)
                    have f0 := free_of_row hb2 0
                    have f1 := free_of_row hb2 1
                    obtain ⟨c2, hc2⟩ : ∃ c2 : Nat, (x.c : Int) % 2 = c2 := ⟨x.c % 2, by omega⟩
                    have hc21 : c2 ≤ 1 := by omega
                    have hcw : IntKind.u8.wrap (x.c : Int) = x.c := by unfold IntKind.wrap; simp [IntKind.bits, IntKind.signed]; omega
                    have HW6 : Hid (∀ w6, w6 = (wr.setCell ⟨xh, 0, none⟩ (.int .u8 3)).setCell ⟨xh, 1, none⟩ (.int .u8 c2) → Hm w.heap.size T n sp hb qs ({ s with H := refS P a x.tl Hk m } : As) P t' w w6) := Lib.hid fun w6 h6 => by
                      have k6 : Kp [xh] wr w6 := by rw [h6]; exact (((Kp.refl [xh] wr).setCell (.inl (by simp)) _).setCell (.inl (by simp)) _)
                      exact HH0.out.sideT (by omega) k6 hb2 e0 (by intro i z h; rcases i with _ | _ | _ | _ | _ | _ | _ | i <;> simp at h) HXh.out
                    have hmay : Wd.mayB 3 c2 oo rf sz false false = true := by rw [Wd.mayB_iff]; simp; omega
                    have hwl := Wd.word_lt 3 c2 oo rf sz false false (by omega) (by omega) (by omega) (by omega) (by omega) hmay
                    have hval : gwO x.c (Hk.getD a 0) = Wd.wordI 3 c2 oo rf sz false false := by
                      unfold gwO
                      obtain ⟨z1, z2, z3⟩ := HGd.out.2.2.2.2.2
                      rw [z1, z2, z3]
                      have : ((x.c % 2 : Nat) : Int) = c2 := by push_cast; exact hc2
                      rw [this]
                    have hfit : Fit T n ((refS P a x.tl Hk m).set a (Wd.wordI 3 c2 oo rf sz false false)) s.Rs := by
                      obtain ⟨V', F', hF⟩ := HGd.out.1.kid (by omega) HG.out.2.1 HGd.out.2.1 x
                      have := hF.hp.fit
                      rw [HK.out, hg, if_pos rfl, hval] at this
                      exact this
                    obtain ⟨Y, hY⟩ : ∃ Y, Y = Wd.wordI 3 c2 oo rf sz false false := ⟨_, rfl⟩
                    have HWd := Lib.hid (fun w6 => Wd.rword_any 3 c2 oo rf sz false false w6 (by omega) (by omega) (by omega) (by omega) (by omega) (by omega) (by omega) (by omega) (by omega) (by omega))
                    rw [← hY] at hval hfit hwl HWd
                    have HV := Lib.hid (And.intro hval (And.intro hfit (And.intro hwl hg)))
                    have HBx := Lib.hid hb2
                    clear hval hfit hwl hg hmay hY hb2
                    rcases HQ.out with hq | ⟨hq, hq2⟩
                    · go_upto_region 31 with (fail)
                      rw [hc2]
                      obtain ⟨w6, hw6⟩ : ∃ w6, w6 = (wr.setCell ⟨xh, 0, none⟩ (.int .u8 3)).setCell ⟨xh, 1, none⟩ (.int .u8 c2) := ⟨_, rfl⟩
                      have hr6 : w6.heap[xh]? = some (.cells #[.int .u8 3, .int .u8 c2, .bool false, .bool false, .int .u8 oo, .int .u8 rf, .int .u8 sz] 81 (0, 0)) := by
                        rw [hw6, heap_setCell_same _ _ _ _ _ _ (heap_setCell_same _ _ _ _ _ _ HBx.out)]; rfl
                      have b0 : w6.cell? ⟨xh, 0, none⟩ = some (.int .u8 3) := (cell_of_row hr6 0).trans rfl
                      have b1 : w6.cell? ⟨xh, 1, none⟩ = some (.int .u8 c2) := (cell_of_row hr6 1).trans rfl
                      have b2 : w6.cell? ⟨xh, 2, none⟩ = some (.bool false) := (cell_of_row hr6 2).trans rfl
                      have b3 : w6.cell? ⟨xh, 3, none⟩ = some (.bool false) := (cell_of_row hr6 3).trans rfl
                      have b4 : w6.cell? ⟨xh, 4, none⟩ = some (.int .u8 oo) := (cell_of_row hr6 4).trans rfl
                      have b5 : w6.cell? ⟨xh, 5, none⟩ = some (.int .u8 rf) := (cell_of_row hr6 5).trans rfl
                      have b6 : w6.cell? ⟨xh, 6, none⟩ = some (.int .u8 sz) := (cell_of_row hr6 6).trans rfl
                      have H6 := Lib.hid (HW6.out w6 hw6)
                      rw [← hw6]
                      clear e0 e1 e2 e3 e4 e5 e6 f0 f1 hw6 hr6 HBx HW6 q3 q4 q5
                      go_wp2_with fail
                      refine (HWd.out w6).mono ?_
                      rintro e w7 ⟨rfl, k7⟩
                      have HSet := Lib.hid (hm_set (H6.out.on (kp_of_below k7)) (by omega) (by omega) a (by have := HGd.out.2.2.2.1; omega) Y HV.out.2.2.1.1 (by have := HV.out.2.2.1.2; omega) HV.out.2.1)
                      clear k7 b0 b1 b2 b3 b4 b5 b6
                      go_wp2_with fail
                      refine HSet.out.mono ?_
                      rintro e w8 ⟨rfl, hm8, -⟩
                      have HN : Hid (∃ t, t ≤ 40000 + 100 * (k2 + 1) ∧ Hm w.heap.size T n sp hb qs ({ s with H := kidsN P l s.H (k2 + 1) } : As) P t w w8) := Lib.hid ⟨t' + 1, by omega, by
                        rw [HS.out, if_neg (by rw [HEa.out.1]; exact HEa.out.2), HEa.out.1, Int.toNat_natCast, HK.out, HV.out.2.2.2, if_pos rfl, HV.out.1]
                        exact hm8⟩
                      clear hm8 HSet HS HK HV
                      go_wp2_with fail
                      go_roundg (M - (k2 + 1))
                      case rel => exact ⟨k2 + 1, by omega, by go_num, HN⟩
                      case measure => omega
                    · go_upto_region 31 with (fail)
                      rw [hc2]
                      obtain ⟨w6, hw6⟩ : ∃ w6, w6 = (wr.setCell ⟨xh, 0, none⟩ (.int .u8 3)).setCell ⟨xh, 1, none⟩ (.int .u8 c2) := ⟨_, rfl⟩
                      have hr6 : w6.heap[xh]? = some (.cells #[.int .u8 3, .int .u8 c2, .bool false, .bool false, .int .u8 oo, .int .u8 rf, .int .u8 sz] 81 (0, 0)) := by
                        rw [hw6, heap_setCell_same _ _ _ _ _ _ (heap_setCell_same _ _ _ _ _ _ HBx.out)]; rfl
                      have b0 : w6.cell? ⟨xh, 0, none⟩ = some (.int .u8 3) := (cell_of_row hr6 0).trans rfl
                      have b1 : w6.cell? ⟨xh, 1, none⟩ = some (.int .u8 c2) := (cell_of_row hr6 1).trans rfl
                      have b2 : w6.cell? ⟨xh, 2, none⟩ = some (.bool false) := (cell_of_row hr6 2).trans rfl
                      have b3 : w6.cell? ⟨xh, 3, none⟩ = some (.bool false) := (cell_of_row hr6 3).trans rfl
                      have b4 : w6.cell? ⟨xh, 4, none⟩ = some (.int .u8 oo) := (cell_of_row hr6 4).trans rfl
                      have b5 : w6.cell? ⟨xh, 5, none⟩ = some (.int .u8 rf) := (cell_of_row hr6 5).trans rfl
                      have b6 : w6.cell? ⟨xh, 6, none⟩ = some (.int .u8 sz) := (cell_of_row hr6 6).trans rfl
                      have H6 := Lib.hid (HW6.out w6 hw6)
                      rw [← hw6]
                      clear e0 e1 e2 e3 e4 e5 e6 f0 f1 hw6 hr6 HBx HW6 q3 q4 q5
                      go_wp2_with fail
                      refine (HWd.out w6).mono ?_
                      rintro e w7 ⟨rfl, k7⟩
                      have HSet := Lib.hid (hm_set (H6.out.on (kp_of_below k7)) (by omega) (by omega) a (by have := HGd.out.2.2.2.1; omega) Y HV.out.2.2.1.1 (by have := HV.out.2.2.1.2; omega) HV.out.2.1)
                      clear k7 b0 b1 b2 b3 b4 b5 b6
                      go_wp2_with fail
                      refine HSet.out.mono ?_
                      rintro e w8 ⟨rfl, hm8, -⟩
                      have HN : Hid (∃ t, t ≤ 40000 + 100 * (k2 + 1) ∧ Hm w.heap.size T n sp hb qs ({ s with H := kidsN P l s.H (k2 + 1) } : As) P t w w8) := Lib.hid ⟨t' + 1, by omega, by
                        rw [HS.out, if_neg (by rw [HEa.out.1]; exact HEa.out.2), HEa.out.1, Int.toNat_natCast, HK.out, HV.out.2.2.2, if_pos rfl, HV.out.1]
                        exact hm8⟩
                      clear hm8 HSet HS HK HV
                      go_wp2_with fail
                      go_roundg (M - (k2 + 1))
                      case rel => exact ⟨k2 + 1, by omega, by go_num, HN⟩
                      case measure => omega
        · have ek2 : k2 = M := by omega
          have HF : Hid (Hm w.heap.size T n sp hb qs ({ s with H := kidsN P l s.H M } : As) P t w wr) := Lib.hid (by rw [← ek2]; exact hHm)
          have ht2 : t ≤ 100000 := by omega
          clear ek2 HR hHm ht HG
          go_wp2_with fail
          go_ret2
          refine ⟨sp, hb, qs, t, ht2, rfl, ?_⟩
          rw [HY.out]
          exact HF.out
end
end Go.Proofs.YticbnckikkdknaaGreatDoor

namespace Go.Proofs.YticbnckikkdknaaGreatDoor
set_option linter.unusedVariables false
set_option linter.unusedSimpArgs false

/-- A graph: whose places are the owner's Local objects, which are Global, where each one leads; is anybody told? -/
structure Gp where
  own : Nat → Bool
  glb : Nat → Bool
  ref : Nat → List Nat
  tel : Bool
/-- A marking: what is marked, what waits, whether that overflowed, who was told. -/
structure Mkg where
  M : Nat → Bool
  st : List Nat
  ov : Bool
  tl : Nat → Bool

section
variable (G : Gp) (room : Nat)
/-- A place is treated. -/
def trS (X : Mkg) (y : Nat) : Mkg :=
  if y = 0 then X
  else if G.glb y && G.tel then { X with tl := fun z => X.tl z || decide (z = y) }
  else if G.own y && !X.M y then { X with M := fun z => X.M z || decide (z = y), st := if X.st.length < room then X.st ++ [y] else X.st, ov := X.ov || !decide (X.st.length < room) }
  else X
def loS (X : Mkg) (l : List Nat) : Mkg := l.foldl (trS G room) X
/-- From these places, over own objects. -/
inductive Rc (R : List Nat) : Nat → Prop
  | root (x : Nat) (h : x ∈ R) (h0 : x ≠ 0) (ho : G.own x = true) : Rc R x
  | step (x y : Nat) (h : Rc R x) (hy : y ∈ G.ref x) (h0 : y ≠ 0) (ho : G.own y = true) : Rc R y
/-- A place is as it is to be. -/
def Fin (X : Mkg) (y : Nat) : Prop := y ≠ 0 → (G.own y = true → X.M y = true) ∧ (G.tel = true → G.glb y = true → X.tl y = true)
def Dn (X : Mkg) (x : Nat) : Prop := ∀ y ∈ G.ref x, Fin G X y
/-- How a marking stands: E are excused. -/
structure Ji (R : List Nat) (E : Nat → Prop) (X : Mkg) : Prop where
  mr : ∀ x, X.M x = true → Rc G R x
  tl : ∀ y, X.tl y = true → G.glb y = true ∧ y ≠ 0 ∧ (y ∈ R ∨ ∃ x, Rc G R x ∧ y ∈ G.ref x)
  st : ∀ x ∈ X.st, X.M x = true
  dn : ∀ x, X.M x = true → Dn G X x ∨ x ∈ X.st ∨ X.ov = true ∨ E x
end
section
variable {G : Gp} {room : Nat} {R : List Nat} {E E' : Nat → Prop} {X X' Y : Mkg}
theorem Rc.own {x : Nat} (h : Rc G R x) : G.own x = true := by cases h <;> assumption
/-- More and more is marked. -/
structure Ge (X Y : Mkg) : Prop where
  m : ∀ x, X.M x = true → Y.M x = true
  t : ∀ x, X.tl x = true → Y.tl x = true
theorem Ge.refl (X : Mkg) : Ge X X := ⟨fun _ h => h, fun _ h => h⟩
theorem Ge.trans {Z : Mkg} (h : Ge X Y) (k : Ge Y Z) : Ge X Z := ⟨fun x hx => k.m x (h.m x hx), fun x hx => k.t x (h.t x hx)⟩
theorem Fin.ge {y : Nat} (h : Fin G X y) (k : Ge X Y) : Fin G Y y := fun h0 => ⟨fun ho => k.m y ((h h0).1 ho), fun ht hg => k.t y ((h h0).2 ht hg)⟩
theorem Dn.ge {x : Nat} (h : Dn G X x) (k : Ge X Y) : Dn G Y x := fun y hy => (h y hy).ge k
theorem tr_ge (X : Mkg) (y : Nat) : Ge X (trS G room X y) := by
  unfold trS
  split
  · exact Ge.refl X
  · split
    · exact ⟨fun _ h => h, fun x h => by simp [h]⟩
    · split
      · exact ⟨fun x h => by simp [h], fun _ h => h⟩
      · exact Ge.refl X
theorem lo_ge (l : List Nat) : ∀ X : Mkg, Ge X (loS G room X l) := by
  induction l with
  | nil => exact fun X => Ge.refl X
  | cons y l ih => exact fun X => (tr_ge X y).trans (ih (trS G room X y))
/-- Own ones are not Global ones. -/
def Apt (G : Gp) : Prop := ∀ x, G.own x = true → G.glb x = false
theorem tr_fin (hA : Apt G) (X : Mkg) (y : Nat) : Fin G (trS G room X y) y := by
  intro h0
  unfold trS
  rw [if_neg h0]
  by_cases hg : G.glb y = true
  · refine ⟨fun ho => ?_, fun ht _ => ?_⟩
    · rw [hA y ho] at hg; cases hg
    · rw [hg, ht]; simp
  · refine ⟨fun ho => ?_, fun _ h => absurd h hg⟩
    have hg' : G.glb y = false := by simpa using hg
    rw [hg']
    simp only [Bool.false_and, Bool.false_eq_true, if_false]
    split
    · simp
    · rename_i hn
      rw [ho] at hn
      simpa using hn
theorem lo_fin (hA : Apt G) (l : List Nat) : ∀ X : Mkg, ∀ y ∈ l, Fin G (loS G room X l) y := by
  induction l with
  | nil => intro X y hy; cases hy
  | cons z l ih =>
    intro X y hy
    rcases List.mem_cons.1 hy with rfl | hy
    · exact (tr_fin hA X y).ge (lo_ge l _)
    · exact ih _ y hy
/-- A place is treated: all stands. -/
theorem Ji.tr (h : Ji G R E X) {y : Nat} (hy : y ∈ R ∨ ∃ x, Rc G R x ∧ y ∈ G.ref x) : Ji G R E (trS G room X y) := by
  have hge := tr_ge (G := G) (room := room) X y
  unfold trS at hge ⊢
  by_cases h0 : y = 0
  · rw [if_pos h0]; exact h
  · rw [if_neg h0] at hge ⊢
    split
    · rename_i hg
      rw [if_pos hg] at hge
      rw [Bool.and_eq_true] at hg
      refine ⟨h.mr, fun z hz => ?_, h.st, fun x hx => ?_⟩
      · simp only [Bool.or_eq_true, decide_eq_true_eq] at hz
        rcases hz with hz | rfl
        · exact h.tl z hz
        · exact ⟨hg.1, h0, hy⟩
      · rcases h.dn x hx with d | d | d
        · exact .inl (d.ge hge)
        · exact .inr (.inl d)
        · exact .inr (.inr d)
    · rename_i hg
      rw [if_neg hg] at hge
      split
      · rename_i ho
        rw [if_pos ho] at hge
        rw [Bool.and_eq_true] at ho
        have hr : Rc G R y := by
          rcases hy with hy | ⟨x, hx, hxy⟩
          · exact .root y hy h0 ho.1
          · exact .step x y hx hxy h0 ho.1
        refine ⟨fun x hx => ?_, h.tl, fun x hx => ?_, fun x hx => ?_⟩
        · simp only [Bool.or_eq_true, decide_eq_true_eq] at hx
          rcases hx with hx | rfl
          · exact h.mr x hx
          · exact hr
        · simp only at hx ⊢
          split at hx
          · rcases List.mem_append.1 hx with hx | hx
            · simp [h.st x hx]
            · simp at hx; simp [hx]
          · simp [h.st x hx]
        · simp only [Bool.or_eq_true, decide_eq_true_eq] at hx
          by_cases hlt : X.st.length < room
          · rcases hx with hx | rfl
            · rcases h.dn x hx with d | d | d | d
              · exact .inl (d.ge hge)
              · refine .inr (.inl ?_); simp only; rw [if_pos hlt]; exact List.mem_append_left _ d
              · refine .inr (.inr (.inl ?_)); simp [d]
              · exact .inr (.inr (.inr d))
            · refine .inr (.inl ?_); simp only; rw [if_pos hlt]; simp
          · refine .inr (.inr (.inl ?_)); simp [hlt]
      · exact h
theorem Ji.lo {l : List Nat} : ∀ {X : Mkg}, Ji G R E X → (∀ y ∈ l, y ∈ R ∨ ∃ x, Rc G R x ∧ y ∈ G.ref x) → Ji G R E (loS G room X l) := by
  induction l with
  | nil => exact fun h _ => h
  | cons y l ih => exact fun h hl => ih (h.tr (hl y (by simp))) (fun z hz => hl z (by simp [hz]))
theorem Ji.more (h : Ji G R E X) (hE : ∀ x, E x → E' x) : Ji G R E' X := ⟨h.mr, h.tl, h.st, fun x hx => (h.dn x hx).imp id (.imp id (.imp id (hE x)))⟩
/-- An object that is excused is looked into: it is excused no more. -/
theorem Ji.look (hA : Apt G) (h : Ji G R E X) {x : Nat} (hx : X.M x = true) : Ji G R (fun z => E z ∧ z ≠ x) (loS G room X (G.ref x)) := by
  have h1 := h.lo (room := room) (l := G.ref x) fun y hy => .inr ⟨x, h.mr x hx, hy⟩
  refine ⟨h1.mr, h1.tl, h1.st, fun z hz => ?_⟩
  rcases h1.dn z hz with d | d | d | d
  · exact .inl d
  · exact .inr (.inl d)
  · exact .inr (.inr (.inl d))
  · by_cases e : z = x
    · subst e; exact .inl (lo_fin hA _ X)
    · exact .inr (.inr (.inr ⟨d, e⟩))
theorem Ji.pop (hA : Apt G) (h : Ji G R E X) {st : List Nat} {x : Nat} (hs : X.st = st ++ [x]) : Ji G R E (loS G room { X with st := st } (G.ref x)) := by
  have hx : X.M x = true := h.st x (by rw [hs]; simp)
  have h1 : Ji G R (fun z => E z ∨ z = x) { X with st := st } := ⟨h.mr, h.tl, fun z hz => h.st z (by rw [hs]; simp [hz]), fun z hz => by
    rcases h.dn z hz with d | d | d | d
    · exact .inl d
    · rw [hs] at d
      rcases List.mem_append.1 d with d | d
      · exact .inr (.inl d)
      · exact .inr (.inr (.inr (.inr (by simpa using d))))
    · exact .inr (.inr (.inl d))
    · exact .inr (.inr (.inr (.inl d)))⟩
  exact (h1.look hA (x := x) hx).more fun z hz => hz.1.resolve_right hz.2
end
end Go.Proofs.YticbnckikkdknaaGreatDoor
