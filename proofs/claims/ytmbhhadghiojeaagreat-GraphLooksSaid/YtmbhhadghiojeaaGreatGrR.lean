/- Reach: the numbers of what is reached, rising. Conditions: as each theorem states them. -/
import Derived.Test.YtmbhhadghiojeaaGreatGrZ
namespace Go.Proofs.YtmbhhadghiojeaaGreat
set_option linter.unusedVariables false
set_option linter.unusedSimpArgs false
open Go.RowKit Go.Maps

theorem reach_nil (w : World) : Calls Tryz.prog 11 #[.pointer none] w fun e w' => e = .returned (.slice none 0 0) ∧ w = w' := by
  go_enter Tryz.func11, Tryz.ntmps11
  go_wp2
  go_ret
  exact ⟨rfl, rfl⟩

/-- The list of all that are reached. -/
def RchL (s : Gs) (xs : List Int) : Prop := xs.Pairwise (· < ·) ∧ ∀ x, x ∈ xs ↔ Rch s x
/-- What Reach answers. -/
def ReachIs (s : Gs) (w : World) (e : Ending) (w' : World) : Prop := ∃ v xs, e = .returned v ∧ RchL s xs ∧ Rw w v xs w' ∧ Kp [] w w'

/-- What waits, in a row of the call's own. -/
structure Wt (w : World) (v : Value) (ws : List Int) (wr : World) : Prop where
  row : Rw w v ws wr
  kp : Kp [] w wr
theorem Wt.on {w wr w2 : World} {v : Value} {ws : List Int} (h : Wt w v ws wr) (k : Kp [] wr w2) : Wt w v ws w2 := ⟨h.row.keep0 k, h.kp.trans k⟩
theorem Wt.more {w wr w2 : World} {v v' : Value} {ws ws' : List Int} (h : Wt w v ws wr) (k : Kp (blk v) wr w2) (hr : Rw w v' ws' w2) : Wt w v' ws' w2 := ⟨hr, (h.row.turned k h.kp).1⟩

/-- Some are looked into (mk), some wait (ws). -/
structure Lk (s : Gs) (w : World) (B : Nat) (N : Nat) (v : Value) (ws : List Int) (mk : Nat → Bool) (g : Nat) (wr : World) : Prop where
  wt : Wt w v ws wr
  mb : ∃ m, Mb wr B m s.m mk ∧ m + g ≤ N
  ge : w.heap.size ≤ B
  rw : ∀ x ∈ ws, 0 ≤ x ∧ x ≤ s.m ∧ (x ≠ 0 → Rch s x)
  rm : ∀ n, 1 ≤ n → n ≤ s.m → mk n = true → Rch s n
  c0 : ∀ x, x ≠ 0 → x ∈ flat s s.nt → x ∈ ws ∨ ∃ n : Nat, x = n ∧ 1 ≤ n ∧ n ≤ s.m ∧ mk n = true
  c1 : ∀ n, 1 ≤ n → n ≤ s.m → mk n = true → ∀ x ∈ s.R n, x ≠ 0 → x ∈ ws ∨ ∃ k : Nat, x = k ∧ 1 ≤ k ∧ k ≤ s.m ∧ mk k = true
  g0 : ws.length + todo s mk s.m = g

theorem Lk.done {s : Gs} {M : Nat} {w wr : World} {B N : Nat} {v : Value} {mk : Nat → Bool} {g : Nat} (hw : Wf s M) (h : Lk s w B N v [] mk g wr) : ∀ x, Rch s x ↔ ∃ n : Nat, x = n ∧ 1 ≤ n ∧ n ≤ s.m ∧ mk n = true := by
  intro x
  constructor
  · intro r
    have base : ∀ x, x ≠ 0 → x ∈ flat s s.nt → ∃ n : Nat, x = n ∧ 1 ≤ n ∧ n ≤ s.m ∧ mk n = true := fun x h0 hx => (h.c0 x h0 hx).resolve_left (by simp)
    induction r with
    | glob hx h0 => exact base _ h0 ((flat_mem s _ _ h0).2 (.inl hx))
    | slot ht hx h0 => exact base _ h0 ((flat_mem s _ _ h0).2 (.inr ⟨_, ht, .inl hx⟩))
    | stack ht hx h0 => exact base _ h0 ((flat_mem s _ _ h0).2 (.inr ⟨_, ht, .inr hx⟩))
    | step _ hx h0 ih =>
      obtain ⟨n, e, h1, h2, h3⟩ := ih
      obtain rfl := Int.ofNat.inj e
      exact (h.c1 _ h1 h2 h3 _ hx h0).resolve_left (by simp)
  · rintro ⟨n, rfl, h1, h2, h3⟩
    exact h.rm n h1 h2 h3

/-- The last one is 0, or was looked into. -/
theorem Lk.pass {s : Gs} {w wr : World} {B N : Nat} {v v' : Value} {ws : List Int} {x : Int} {mk : Nat → Bool} {g : Nat} (h : Lk s w B N v (ws ++ [x]) mk (g + 1) wr) (hr : Rw w v' ws wr)
    (hx : x = 0 ∨ ∃ n : Nat, x = n ∧ 1 ≤ n ∧ n ≤ s.m ∧ mk n = true) : Lk s w B N v' ws mk g wr := by
  obtain ⟨m, hm, hb⟩ := h.mb
  have sw : ∀ y, y ≠ 0 → y ∈ ws ++ [x] → y ∈ ws ∨ ∃ n : Nat, y = n ∧ 1 ≤ n ∧ n ≤ s.m ∧ mk n = true := fun y h0 hy => by
    rw [List.mem_append, List.mem_singleton] at hy
    rcases hy with hy | rfl
    · exact .inl hy
    · exact hx.elim (fun e => absurd e h0) .inr
  refine ⟨⟨hr, h.wt.kp⟩, ⟨m, hm, by omega⟩, h.ge, fun y hy => h.rw y (List.mem_append_left _ hy), h.rm, fun y h0 hy => ?_, fun n h1 h2 h3 y hy h0 => ?_, ?_⟩
  · exact (h.c0 y h0 hy).elim (sw y h0) .inr
  · exact (h.c1 n h1 h2 h3 y hy h0).elim (sw y h0) .inr
  · have := h.g0
    rw [List.length_append] at this
    simp at this
    omega
/-- The last one is looked into. -/
theorem Lk.look {s : Gs} {M : Nat} {w wr w2 : World} {B N m : Nat} {v v' : Value} {ws : List Int} {n : Nat} {mk : Nat → Bool} {g : Nat} (hw : Wf s M) (h : Lk s w B N v (ws ++ [(n : Int)]) mk (g + 1) wr) (h1 : 1 ≤ n) (hn : n ≤ s.m) (hm : mk n = false)
    (hr : Wt w v' (ws ++ s.R n) w2) (hmb : Mb w2 B m s.m (up mk n true)) (hmN : m + g ≤ N) : Lk s w B N v' (ws ++ s.R n) (up mk n true) g w2 := by
  have hrn : Rch s n := (h.rw n (by simp)).2.2 (by omega)
  have sw : ∀ y, y ≠ 0 → (y ∈ ws ++ [(n : Int)] ∨ ∃ k : Nat, y = k ∧ 1 ≤ k ∧ k ≤ s.m ∧ mk k = true) → y ∈ ws ++ s.R n ∨ ∃ k : Nat, y = k ∧ 1 ≤ k ∧ k ≤ s.m ∧ up mk n true k = true := fun y h0 hy => by
    rcases hy with hy | ⟨k, rfl, a, b, c⟩
    · rw [List.mem_append, List.mem_singleton] at hy
      rcases hy with hy | rfl
      · exact .inl (List.mem_append_left _ hy)
      · exact .inr ⟨n, rfl, h1, hn, up_same ..⟩
    · refine .inr ⟨k, rfl, a, b, ?_⟩
      unfold up
      split
      · rfl
      · exact c
  refine ⟨hr, ⟨m, hmb, hmN⟩, h.ge, fun y hy => ?_, fun k a b c => ?_, fun y h0 hy => sw y h0 (h.c0 y h0 hy), fun k a b c y hy h0 => ?_, ?_⟩
  · rw [List.mem_append] at hy
    rcases hy with hy | hy
    · exact h.rw y (List.mem_append_left _ hy)
    · have := hw.vR n hn y hy
      exact ⟨this.1, this.2, fun h0 => .step hrn hy h0⟩
  · by_cases e : k = n
    · subst e; exact hrn
    · rw [up_other _ _ e] at c
      exact h.rm k a b c
  · by_cases e : k = n
    · subst e
      exact .inl (List.mem_append_right _ hy)
    · rw [up_other _ _ e] at c
      exact sw y h0 (h.c1 k a b c y hy h0)
  · have h2 := h.g0
    have h3 := todo_set s mk h1 hm s.m hn
    rw [List.length_append] at h2 ⊢
    simp at h2
    omega

theorem lk_start {s : Gs} {M : Nat} {w wr : World} {v : Value} (hw : Wf s M) (hfl : (flat s s.nt).length ≤ 8 + 24 * s.nt) (h : Wt w v (flat s s.nt) wr) :
    Lk s w wr.heap.size (8 + 24 * 64 + 95 * s.m) v (flat s s.nt) (fun _ => false) ((flat s s.nt).length + todo s (fun _ => false) s.m) (wr.alloc (.map #[] 0)) := by
  have h1 := todo_le s (fun _ => false) (fun n a b => by have := hw.r95 n a b; omega) s.m (Nat.le_refl _)
  have h2 := hw.n64
  refine ⟨h.on ((Kp.refl _ _).alloc _), ⟨0, Mb.made wr s.m, by omega⟩, h.kp.size, fun x hx => ?_, fun n a b c => (by cases c), fun x h0 hx => .inl hx, fun n a b c => (by cases c), rfl⟩
  by_cases h0 : x = 0
  · subst h0; exact ⟨Int.le_refl _, by omega, fun h => absurd rfl h⟩
  · rcases (flat_mem s _ _ h0).1 hx with hg | ⟨t, ht, hg | hg⟩
    · have := hw.vR 0 (Nat.zero_le _) _ hg; exact ⟨this.1, this.2, fun _ => .glob hg h0⟩
    · have := hw.vA _ ht _ hg; exact ⟨this.1, this.2, fun _ => .slot ht hg h0⟩
    · have := hw.vL _ ht _ hg; exact ⟨this.1, this.2, fun _ => .stack ht hg h0⟩
theorem Rw.keep_map {w w' w'' : World} {v : Value} {xs : List Int} {B m M : Nat} {mk : Nat → Bool} (h : Rw w v xs w') (k : Kp [B] w' w'') (hB : Mb w' B m M mk) : Rw w v xs w'' := by
  refine ⟨h.own.1, ?_⟩
  rcases h.own.2 with h0 | ⟨g, c, cur, rfl, hge, hg, r⟩
  · exact .inl h0
  · exact .inr ⟨g, c, cur, rfl, hge, k.row (by simpa using (hB.ne hg).symm) hg, r⟩
theorem Mb.notin {w w' : World} {v : Value} {xs : List Int} {B m M : Nat} {mk : Nat → Bool} (h : Rw w v xs w') (hB : Mb w' B m M mk) : B ∉ blk v := fun e => by
  obtain ⟨_, cur, hc⟩ := h.block B e
  exact hB.ne hc rfl
theorem Ro.rd {w : World} {g c : Nat} {xs : List Int} (h : Ro 3 .i64 w g xs) (hc : xs.length ≤ c) : Rd w (.slice (some ⟨g, 0, none⟩) xs.length c) xs := by
  refine ⟨⟨_, _, rfl, hc, fun e => (by cases e), fun _ => ⟨_, _, rfl, fun i hi => by rw [Nat.zero_add]; exact h.cell hi⟩⟩, fun b hb => ?_⟩
  rw [blk_some, List.mem_singleton] at hb
  obtain ⟨cur, hcur, _⟩ := h
  exact ⟨cur, hb ▸ hcur⟩
/-- 'append(v, u...)', u a row that lies at g. -/
theorem run_append_ro {w0 w : World} (v : Value) (g n c : Nat) (L ys : List Int) (hown : Rw w0 v L w) (hr : Ro 3 .i64 w g ys) (hn : n = ys.length) (hl : L.length + ys.length ≤ 200000) (hk0 : w0.heap.size ≤ w.heap.size) (ty : TypeId) :
    ∃ ao cap w', (Builtin.append_ #[37, 37] ty #[v, .slice (some ⟨g, 0, none⟩) n c]).run Tryz.prog w = .ok (.slice ao (L.length + ys.length) cap) w' ∧ Rw w0 (.slice ao (L.length + ys.length) cap) (L ++ ys) w' ∧ Kp (blk v) w w' := by
  subst hn
  obtain ⟨i, hi, hz0, hz1, hz2⟩ := info_parts int_info
  obtain ⟨v', w', hrun, r1, r2, _⟩ := run_append_own (P := Tryz.prog) w w0.heap.size 37 ty 3 i (.int .i64 0) 1 8 Tryz.underlying37 hi hz0 hz1 hz2 rfl (by decide) v L.length (ints L) hown.own ⟨g, 0, none⟩ ys.length c (ints ys) (by simp [ints]) hr.news (ones_ints ys) (by unfold maxLen; omega) (by omega) hk0
  have hr1 : Rw w0 v' (L ++ ys) w' := ⟨by rw [List.length_append, show ints (L ++ ys) = ints L ++ ints ys from by simp [ints]]; exact r1⟩
  obtain ⟨ao, cc, e⟩ := hr1.form
  rw [List.length_append] at e
  subst e
  exact ⟨ao, cc, w', hrun, hr1, kp_of_row r2⟩

/-- Behind the loop: Sorted of the keys is the list of what is reached. -/
theorem reach_end {s : Gs} {M : Nat} {w wr : World} {B N g : Nat} {v : Value} {mk : Nat → Bool} (hw : Wf s M) (hM : M ≤ 1000) (hN : N ≤ 100000) (h : Lk s w B N v [] mk g wr) :
    Calls Tryz.prog 47 #[.func (.func 85) #[] #[.pointer (some ⟨wr.heap.size, 0, none⟩)]] (wr.alloc (.cells #[.map (some B)] 72)) (ReachIs s w) := by
  obtain ⟨m, ⟨D, ho, h3, h4, h5⟩, hmN⟩ := h.mb
  have ka : Kp [] wr (wr.alloc (.cells #[.map (some B)] 72)) := (Kp.refl _ _).alloc _
  have ho' : (wr.alloc (.cells #[.map (some B)] 72)).ownsMap Tryz.prog 3 (plainElem Tryz.prog 4) B m D := ho.alloc _
  refine (sorted_any B m wr.heap.size D _ _ (by rw [cell_of_row (heap_alloc_new wr _)]; rfl) ho' (by have := ho.size_le; omega)).mono ?_
  rintro e w' ⟨v', ss, rfl, hp, hr, hk⟩
  obtain ⟨h6, h7⟩ := sorted_mem (M := s.m) ho hp
  have hd := h.done hw
  refine ⟨v', _, rfl, ⟨h6, fun x => ?_⟩, ⟨hr.own.1, ?_⟩, (h.wt.kp.trans ka).trans hk⟩
  · rw [h7, hd]
    constructor
    · intro hh
      obtain ⟨n, a, b, c, e⟩ := h3 _ hh
      injection e with _ e
      exact ⟨n, e, a, b, c⟩
    · rintro ⟨n, rfl, a, b, c⟩
      rw [h4 n a b, c]
  · rcases hr.own.2 with h0 | ⟨g, c, cur, rfl, hge, r⟩
    · exact .inl h0
    · exact .inr ⟨g, c, cur, rfl, Nat.le_trans (h.wt.kp.trans ka).size hge, r⟩

set_option maxRecDepth 100000 in
set_option maxHeartbeats 1000000 in
theorem reach_any (F : Nat → Prop) (w : World) (p : Nat) (s : Gs) (M : Nat) (hx : Gx F w p s) (hw : Wf s M) (hM : M ≤ 1000) : Calls Tryz.prog 11 #[.pointer (some ⟨p, 0, none⟩)] w (ReachIs s w) := by
  obtain ⟨y, hy, hf⟩ := hx
  have h8 := hw.g8
  have hc1 := hy.c1
  have hcl := clone_int w (y.ig 0) (y.ic 0) (s.R 0) (hy.hi 0 (Nat.zero_le _)) (by omega)
  have HY := Lib.hid hy
  have HW := Lib.hid hw
  have hn64 := hw.n64
  have hmM := hw.m
  have hA : ∀ t, t < s.nt → (s.A t).length ≤ 8 ∧ (s.L t).length ≤ 16 := fun t ht => ⟨(hy.hq t ht).la, (hy.hq t ht).ll⟩
  have HFL := Lib.hid (flat_len s hA h8)
  obtain ⟨nt, hnt⟩ : ∃ nt, nt = s.nt := ⟨_, rfl⟩
  have HNT := Lib.hid hnt
  rw [← hnt] at hn64
  clear hf hy hw hA hnt
  obtain ⟨l0, hl0⟩ : ∃ l0, l0 = (s.R 0).length := ⟨_, rfl⟩
  have HL0 := Lib.hid hl0
  rw [← hl0] at hc1 hcl h8
  clear hl0
  go_enter Tryz.func11, Tryz.ntmps11
  go_wp2_with fail
  refine hcl.mono ?_
  rintro e w1 ⟨g1, cp1, rfl, hg1, hown1, hk1⟩
  have W1 : Hid (Wt w (.slice (some ⟨g1, 0, none⟩) l0 cp1) (flat s 0) w1) := Lib.hid ⟨by
    rw [HL0.out]; exact ⟨hown1⟩, hk1⟩
  rw [← HL0.out]
  have hc0 := (HY.out.keep0 hk1).c0
  rw [← HNT.out] at hc0
  clear hcl hc1 hown1 hk1 hg1
  go_wp2_with fail
  clear hc0
  go_loopw [3, 21] (fun v i wr => ∃ k : Nat, k ≤ nt ∧ i = .int .i64 k ∧ Hid (Wt w v (flat s k) wr)) (fun v i wr => nt - (intOf i).toNat)
  case atStart => exact ⟨0, Nat.zero_le _, rfl, W1⟩
  case round =>
    obtain ⟨k, hk, rfl, HK⟩ := hrel
    clear W1
    by_cases hlt : k < nt
    · have hyr := HY.out.keep0 HK.out.kp
      have hlt' : k < s.nt := by rw [← HNT.out]; exact hlt
      have hct := hyr.ct hlt'
      have hall := all_any wr (y.qs k) (s.A k) (s.L k) (hyr.hq k hlt')
      have hfl : (flat s k).length + (nz (s.A k ++ s.L k)).length ≤ 200000 := by
        have h1 := HFL.out (k + 1) (by omega)
        rw [flat, List.length_append] at h1
        omega
      clear hyr hlt'
      go_wp2_with fail
      refine hall.mono ?_
      rintro e w2 ⟨ao, c, rfl, hR, hk2⟩
      obtain ⟨ao3, cap3, w3, hrun, hr3, hk3⟩ := run_append_list _ _ (flat s k) (nz (s.A k ++ s.L k)) (HK.out.on hk2).row hR.rd hfl (HK.out.on hk2).kp.size 37
      have HK3 : Hid (Wt w (.slice ao3 ((flat s k).length + (nz (s.A k ++ s.L k)).length) cap3) (flat s (k + 1)) w3) := Lib.hid ((HK.out.on hk2).more hk3 hr3)
      clear hall hR hk2 hr3 hk3 hct hfl
      generalize (nz (s.A k ++ s.L k)).length = zl at *
      generalize (flat s k).length + zl = fl at *
      go_wp2_with (at_builtin; refine wpList_append_eq rfl _ _ 37 rfl _ _ _ rfl rfl hrun ?_)
      go_roundw
      case rel => exact ⟨k + 1, by omega, by go_num, HK3⟩
      case measure => simp only [intOf]; omega
    · have hmm := @run_makeMap Tryz.prog
      obtain rfl : k = nt := by omega
      have hkf := HK.out
      rw [HNT.out] at hkf
      have hfl := HFL.out s.nt (Nat.le_refl _)
      have hfl2 : (flat s s.nt).length + todo s (fun _ => false) s.m ≤ 100000 := by
        have h1 := todo_le s (fun _ => false) (fun n a b => by have := HW.out.r95 n a b; omega) s.m (Nat.le_refl _)
        have := HW.out.n64
        omega
      have HB0 := Lib.hid (lk_start HW.out hfl hkf)
      obtain ⟨wa, rfl⟩ : ∃ wa : World, wa = wr := ⟨_, rfl⟩
      clear hkf HK hfl
      generalize (flat s s.nt).length + todo s (fun _ => false) s.m = g0 at HB0 hfl2
      go_wp2
      clear hmm
      go_loopg [3] g0 (fun g v wr => ∃ ws mk, g ≤ g0 ∧ Hid (Lk s w wa.heap.size (8 + 24 * 64 + 95 * s.m) v ws mk g wr))
      case atStart => exact ⟨_, _, Nat.le_refl _, HB0⟩
      case round =>
        obtain ⟨ws, mk, hgk, HL⟩ := hrel
        clear HB0
        rcases List.eq_nil_or_concat ws with rfl | ⟨init, x, hws⟩
        · obtain ⟨ao, cap, hv⟩ := HL.out.wt.row.form
          subst hv
          simp only [List.length_nil]
          have hend := reach_end HW.out hM (by omega) HL.out
          have hkeys := keys_any (some wa.heap.size) wr
          clear HL
          go_wp2_with fail
          refine hkeys.mono ?_
          rintro e w2 ⟨rfl, rfl⟩
          clear hkeys
          go_wp2_with fail
          refine hend.mono ?_
          rintro e w3 ⟨v3, xs, rfl, hrl, hrw, hk3⟩
          obtain ⟨ao3, cp3, rfl⟩ := hrw.form
          have HE := Lib.hid (And.intro hrl (And.intro hrw hk3))
          clear hend hrl hrw hk3
          generalize hxl : xs.length = xl at HE
          clear hxl
          go_wp2_with fail
          go_ret
          exact ⟨_, xs, rfl, HE.out.1, HE.out.2.1, HE.out.2.2⟩
        · rw [List.concat_eq_append] at hws
          subst hws
          obtain ⟨gb, cap, hv, hcap, hcx, hcut⟩ := HL.out.wt.row.last
          subst hv
          have hrx := HL.out.rw x (by simp)
          obtain ⟨G, hG⟩ : ∃ G, gk = G + 1 := ⟨gk - 1, by have := HL.out.g0; simp at this; omega⟩
          subst hG
          have hil : init.length ≤ 100000 := by have := HL.out.g0; simp at this; omega
          have HCUT := Lib.hid hcut
          clear hcut
          obtain ⟨k2, hk2⟩ : ∃ k2, k2 = init.length := ⟨_, rfl⟩
          have HK2 := Lib.hid hk2
          rw [← hk2] at hcap hcx HCUT hil ⊢
          clear hk2
          by_cases hx0 : x = 0
          · have HP := Lib.hid (HL.out.pass HCUT.out (.inl hx0))
            subst hx0
            clear HL hrx HCUT
            go_wp2
            go_roundg G
            case rel => exact ⟨init, mk, by omega, HP⟩
            case measure => omega
          · obtain ⟨n, hn⟩ : ∃ n : Nat, x = n := ⟨x.toNat, by omega⟩
            have h1 : 1 ≤ n := by omega
            have hnm : n ≤ s.m := by omega
            obtain ⟨m2, hmb, hmN⟩ := HL.out.mb
            have hb1 : (x == 0) = false := by simpa using hx0
            have hb2 : (x != 0) = true := by simpa using hx0
            cases hmk : mk n
            · have hlk := hmb.at h1 hnm (by omega)
              rw [hmk, ← hn] at hlk
              obtain ⟨w2, hup, hmb2, hkB⟩ := hmb.put h1 hnm (by omega) (by omega)
              have hge := HL.out.ge
              have kp2 : Kp [] w w2 := (kp_then HL.out.wt.kp hkB).mono fun b hb hlt => by
                rw [List.mem_singleton] at hb
                omega
              have hy2 := HY.out.keep0 kp2
              have hc2 := hy2.c2
              have hlo : (Instr.lookup 51 (.map (some y.B)) (.int .i64 n) false).run Tryz.prog w2 = .ok (.agg #[.slice (some ⟨y.ig n, 0, none⟩) (s.R n).length (y.ic n), .slice (some ⟨y.dg n, 0, none⟩) (s.D n).length (y.dc n)]) w2 := hy2.hm.at h1 hnm (by omega)
              have hfl := field_0 (y.ig n) (s.R n).length (y.ic n) (y.dg n) (s.D n).length (y.dc n)
              have hcut2 := HCUT.out.keep_map hkB hmb
              rw [HK2.out] at hcut2
              have h95 := HW.out.r95 n h1 hnm
              obtain ⟨ao3, cap3, w3, hrun, hr3, hk3⟩ := run_append_ro _ (y.ig n) (s.R n).length (y.ic n) init (s.R n) hcut2 (hy2.hi n hnm) rfl (by have := HK2.out; omega) kp2.size 37
              have hLt := HL.out
              rw [hn] at hLt
              have HP := Lib.hid (hLt.look HW.out h1 hnm hmk ((Wt.mk hcut2 kp2).more hk3 hr3) (hmb2.keep hk3 (Mb.notin hcut2 hmb2)) (by omega))
              rw [← hn] at hup hlo
              rw [← HK2.out] at hrun HP
              clear HL hrx HCUT hmb hmN hmk hx0 hn hmb2 hkB kp2 hy2 hcut2 hr3 hk3 hLt h95
              generalize (s.D n).length = dl at hlo hfl
              generalize (s.R n).length = rl at hlo hfl hrun HP
              generalize k2 + rl = kl at hrun HP
              go_wp2_with (at_builtin; refine wpList_append_eq rfl _ _ 37 rfl _ _ _ rfl rfl hrun ?_)
              go_roundg G
              case rel => exact ⟨_, _, by omega, HP⟩
              case measure => omega
            · have hlk := hmb.at h1 hnm (by omega)
              rw [hmk, ← hn] at hlk
              have HP := Lib.hid (HL.out.pass HCUT.out (.inr ⟨n, hn, h1, hnm, hmk⟩))
              clear HL hrx HCUT hmb hmN hmk hx0 hn
              go_wp2
              go_roundg G
              case rel => exact ⟨init, mk, by omega, HP⟩
              case measure => omega

end Go.Proofs.YtmbhhadghiojeaaGreat
