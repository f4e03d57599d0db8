/- The walks of Drop, and of Has and Drop of no list. Conditions: as each theorem states them. -/
import Derived.Test.YthcblhombfggaaaLsH
import Derived.Test.YthcblhombfggaaaRnd
namespace Go.Proofs.Ythcblhombfggaaa
set_option linter.unusedVariables false
set_option linter.unusedSimpArgs false
open Go.RowKit Go.Shelf
attribute [local go_sem] Oper.semAt_some

/-- Whether x is to go. -/
def goes (f t x : Int) : Bool := decide (f ≤ x) && decide (x < t)
def left (f t : Int) (xs : List Int) : List Int := xs.filter fun x => !goes f t x
/-- The first k rows have been gone through. -/
def Rk (R : Nat → List Int) (f t : Int) (k : Nat) : Nat → List Int := fun c => if c < k then left f t (R c) else R c
def gone (R : Nat → List Int) (f t : Int) : Nat → Nat
  | 0 => 0
  | k + 1 => gone R f t k + ((R k).length - (left f t (R k)).length)

theorem left_le (f t : Int) (xs : List Int) : (left f t xs).length ≤ xs.length := List.length_filter_le _ _
theorem Rk_zero (R : Nat → List Int) (f t : Int) : Rk R f t 0 = R := by funext c; simp [Rk]
theorem Rk_at (R : Nat → List Int) (f t : Int) (k : Nat) : Rk R f t k k = R k := by simp [Rk]
theorem Rk_upd (R : Nat → List Int) (f t : Int) (k : Nat) : upd (Rk R f t k) k (left f t (R k)) = Rk R f t (k + 1) := by
  funext c
  by_cases e : c = k
  · subst e; simp [upd, Rk]
  · simp only [upd, e, if_false, Rk]
    by_cases h : c < k
    · rw [if_pos h, if_pos (by omega)]
    · rw [if_neg h, if_neg (by omega)]
theorem gone_le (R : Nat → List Int) (f t : Int) (hn : ∀ c, c < 4 → (R c).length ≤ 1000) : ∀ k, k ≤ 4 → gone R f t k ≤ 1000 * k
  | 0, _ => by simp [gone]
  | k + 1, h => by
    have := gone_le R f t hn k (by omega)
    have := hn k (by omega)
    simp only [gone]; omega

theorem Rw.form {w : World} {v : Value} {xs : List Int} (h : Rw w v xs) : ∃ ao cap, v = .slice ao xs.length cap := by
  rcases h with ⟨rfl, rfl⟩ | ⟨g, cap, cur, rfl, _⟩
  · exact ⟨none, 0, rfl⟩
  · exact ⟨_, _, rfl⟩

theorem goes_any (w : World) (f t x : Int) (a b : Nat) (ha : w.cell? ⟨a, 0, none⟩ = some (.int .i64 f)) (hb : w.cell? ⟨b, 0, none⟩ = some (.int .i64 t)) :
    Calls Try.prog 19 #[.int .i64 x, .pointer (some ⟨a, 0, none⟩), .pointer (some ⟨b, 0, none⟩)] w fun e w' => e = .returned (.bool (goes f t x)) ∧ w' = w := by
  by_cases h1 : f ≤ x
  · by_cases h2 : x < t
    · have e : goes f t x = true := by simp [goes, h1, h2]
      rw [e]
      go_enter Try.func19, Try.ntmps19
      go_wp2
      go_ret
      exact ⟨rfl, rfl⟩
    · have e : goes f t x = false := by simp [goes, h2]
      rw [e]
      go_enter Try.func19, Try.ntmps19
      go_wp2
      go_ret
      exact ⟨rfl, rfl⟩
  · have e : goes f t x = false := by simp [goes, h1]
    rw [e]
    go_enter Try.func19, Try.ntmps19
    go_wp2
    go_ret
    exact ⟨rfl, rfl⟩

theorem Lk.putOwn {p : Nat} {vs vs' : Nat → Value} {B : Nat} {w W W' : World} {row : Option Nat} (h : Lk p vs vs' w W) (hw : w.heap.size ≤ B) (hg : W.grownBy W' row) (hr : ∀ r, row = some r → B ≤ r ∧ ∃ o : Obj, W.heap[r]? = some o ∧ o.isCells = false) : Lk p vs vs' w W' :=
  ⟨hg.os.trans h.os, hg.tape.trans h.tape, hg.output.trans h.output, Nat.le_trans h.size hg.size, fun k hk hp hn => (hg.block k (Nat.lt_of_lt_of_le hk h.size) (fun e => by have := (hr k e.symm).1; omega)).trans (h.block k hk hp hn), h.own⟩

/-- A store of one cell, whatever value. -/
theorem store_one {w : World} {b i : Nat} {u v : Value} (hc : w.cell? ⟨b, i, none⟩ = some u) (hf : w.frozen? ⟨b, i, none⟩ = false) (h1 : v.oneCell' = true) : (store ⟨b, i, none⟩ v).run Try.prog w = .ok () (w.setCell ⟨b, i, none⟩ v) := by
  rw [run_store Try.prog w _ v _ h1]
  simp [hc, hf]

/-- What is so between two rounds of Drop. -/
structure DropI (p : Nat) (vs : Nat → Value) (R : Nat → List Int) (f t : Int) (w : World) (k : Nat) (W : World) (vs' : Nat → Value) : Prop where
  ls : Ls W p vs' (Rk R f t k)
  hf : W.heap[w.heap.size]? = some (.cells #[.int .i64 f] 3 (0, 0))
  ht : W.heap[w.heap.size + 1]? = some (.cells #[.int .i64 t] 3 (0, 0))
  hd : W.heap[w.heap.size + 1 + 1]? = some (.cells #[.int .i64 (gone R f t k)] 3 (0, 0))
  hg : W.heap[w.heap.size + 1 + 1 + 1]? = some (.cells #[.func (.func 19) #[] #[.pointer (some ⟨w.heap.size, 0, none⟩), .pointer (some ⟨w.heap.size + 1, 0, none⟩)]] 43 (0, 0))
  lk : Lk p vs vs' w W
  own : ∀ g, Owns vs' g → g < w.heap.size
  plt : p < w.heap.size

theorem drop_step {p : Nat} {vs vs' : Nat → Value} {R : Nat → List Int} {f t : Int} {w W w5 : World} {k B : Nat} {v : Value} (hk : k < 4) (I : DropI p vs R f t w k W vs') (hR : Rw w5 v (left f t (R k))) (hb : blk v = blk (vs' k)) (hk5 : Kp (blk (vs' k)) W w5) {z : Int} (hz : z = gone R f t (k + 1)) :
    KeepsFrom B W ((w5.setCell ⟨w.heap.size + 1 + 1, 0, none⟩ (.int .i64 z)).setCell ⟨p, k, none⟩ v) ∧
    ∃ vs'', DropI p vs R f t w (k + 1) ((w5.setCell ⟨w.heap.size + 1 + 1, 0, none⟩ (.int .i64 z)).setCell ⟨p, k, none⟩ v) vs'' := by
  have hbx : ∀ b, w.heap.size ≤ b → b ∉ blk (vs' k) := fun b hb e => by have := I.own b ⟨k, hk, e⟩; omega
  have hplt := I.plt
  have k6 : Kp ((w.heap.size + 1 + 1) :: blk (vs' k)) W (w5.setCell ⟨w.heap.size + 1 + 1, 0, none⟩ (.int .i64 z)) :=
    ((hk5.mono (T := (w.heap.size + 1 + 1) :: blk (vs' k)) (fun x hx _ => List.mem_cons_of_mem _ hx)).setCell (.inl (by simp)) _)
  have k7 : Kp (p :: (w.heap.size + 1 + 1) :: blk (vs' k)) W ((w5.setCell ⟨w.heap.size + 1 + 1, 0, none⟩ (.int .i64 z)).setCell ⟨p, k, none⟩ v) :=
    (k6.mono (fun x hx _ => List.mem_cons_of_mem _ hx)).setCell (.inl (by simp)) _
  have hd5 := hk5.row (hbx _ (by omega)) I.hd
  have hR6 : Rw (w5.setCell ⟨w.heap.size + 1 + 1, 0, none⟩ (.int .i64 z)) v (left f t (R k)) :=
    hR.keep (S := [w.heap.size + 1 + 1]) ((Kp.refl _ _).setCell (.inl (by simp)) _) (fun g hg hg' => by
      rw [List.mem_singleton] at hg'
      subst hg'
      rw [hb] at hg
      exact hbx _ (by omega) hg)
  have hL := I.ls.storeS (v := v) hk hR6 k6 (fun x hx => by
    rcases List.mem_cons.1 hx with rfl | hx
    · exact ⟨by omega, fun d hd _ e => by have := I.own _ ⟨d, hd, e⟩; omega⟩
    · exact I.ls.rowS hk x hx) (fun g hg => .inl (hb ▸ hg))
  rw [Rk_upd] at hL
  have hne : ∀ b, w.heap.size ≤ b → b ≠ w.heap.size + 1 + 1 → b ∉ p :: (w.heap.size + 1 + 1) :: blk (vs' k) := by
    intro b hb1 hb2 e
    rcases List.mem_cons.1 e with rfl | e
    · omega
    · rcases List.mem_cons.1 e with rfl | e
      · exact hb2 rfl
      · exact hbx _ hb1 e
  refine ⟨keepsFrom_kp k7 ?_, _, hL, k7.row (hne _ (by omega) (by omega)) I.hf, k7.row (hne _ (by omega) (by omega)) I.ht, ?_, k7.row (hne _ (by omega) (by omega)) I.hg, I.lk.step k7 ?_ ?_, ?_, hplt⟩
  · intro x hx o ho
    rcases List.mem_cons.1 hx with rfl | hx
    · rw [I.ls.hp] at ho; cases ho; rfl
    · rcases List.mem_cons.1 hx with rfl | hx
      · rw [I.hd] at ho; cases ho; rfl
      · obtain ⟨cur, hc⟩ := (I.ls.rw k hk).block x hx
        rw [hc] at ho; cases ho; rfl
  · rw [heap_setCell_other _ _ _ _ (by simp; omega), ← hz]
    exact one_setCell hd5
  · intro x hx hxl
    rcases List.mem_cons.1 hx with rfl | hx
    · exact .inl rfl
    · rcases List.mem_cons.1 hx with rfl | hx
      · omega
      · exact .inr ⟨k, hk, hx⟩
  · intro g hg
    rcases owns_upd hg with q | q
    · exact .inl ⟨k, hk, hb ▸ q⟩
    · exact .inl q
  · intro g hg
    rcases owns_upd hg with q | q
    · exact I.own g ⟨k, hk, hb ▸ q⟩
    · exact I.own g q

set_option maxRecDepth 100000 in
set_option maxHeartbeats 4000000 in
theorem drop_any (w : World) (p : Nat) (vs : Nat → Value) (R : Nat → List Int) (f t : Int) (h : Ls w p vs R) (hn : ∀ c, c < 4 → (R c).length ≤ 1000) :
    Calls Try.prog 10 #[.pointer (some ⟨p, 0, none⟩), .int .i64 f, .int .i64 t] w fun e w' => e = .returned (.int .i64 (gone R f t 4)) ∧ ∃ vs', Ls w' p vs' (Rk R f t 4) ∧ Lk p vs vs' w w' := by
  refine (callsIn_wide (n := 3)).1 ?_
  refine callsIn_of_wp_marks Try.func10 rfl trivial ?_ rfl
  simp only [Try.ntmps10, List.size_toArray, List.length_cons, List.length_nil, Nat.reduceAdd, Nat.reduceSub, Array.replicate_succ, Array.replicate_zero, List.push_toArray, List.append_toArray, List.nil_append, List.cons_append]
  have hmf : ∀ (fn : Fn) (first cap : Array Value) (w : World), (Instr.makeFunc fn first cap).run Try.prog w = .ok (.func fn first cap) w := fun _ _ _ _ => rfl
  obtain ⟨w3, hw3⟩ : ∃ w3, ((w.alloc (.cells #[.int .i64 f] 3)).alloc (.cells #[.int .i64 t] 3)).alloc (.cells #[.int .i64 0] 3) = w3 := ⟨_, rfl⟩
  have hs3 : w3.heap.size = w.heap.size + 1 + 1 + 1 := by rw [← hw3]; simp
  have hb4 := heap_alloc_new w3 (.cells #[.nilFunc] 43)
  have hst := store_one (cell_of_one hb4) (free_of_one hb4) (v := .func (.func 19) #[] #[.pointer (some ⟨w.heap.size, 0, none⟩), .pointer (some ⟨w.heap.size + 1, 0, none⟩)]) rfl
  have hb5 := one_setCell (u := .func (.func 19) #[] #[.pointer (some ⟨w.heap.size, 0, none⟩), .pointer (some ⟨w.heap.size + 1, 0, none⟩)]) hb4
  have hb0 : w3.heap[w.heap.size]? = some (.cells #[.int .i64 f] 3 (0, 0)) := by
    rw [← hw3, Below.heap_alloc _ _ _ (by simp; omega)]; exact heap_alloc2_old w _ _
  have hb1 : w3.heap[w.heap.size + 1]? = some (.cells #[.int .i64 t] 3 (0, 0)) := by
    rw [← hw3, Below.heap_alloc _ _ _ (by simp)]; exact heap_alloc2_new w _ _
  have hb2 : w3.heap[w.heap.size + 1 + 1]? = some (.cells #[.int .i64 0] 3 (0, 0)) := by
    rw [← hw3]
    have := heap_alloc_new ((w.alloc (.cells #[.int .i64 f] 3)).alloc (.cells #[.int .i64 t] 3)) (.cells #[.int .i64 0] 3)
    simpa using this
  have hk3 : Kp [] w w3 := by rw [← hw3]; exact (((Kp.refl _ _).alloc _).alloc _).alloc _
  have hk34 : Kp [] w3 ((w3.alloc (.cells #[.nilFunc] 43)).setCell ⟨w3.heap.size, 0, none⟩ (.func (.func 19) #[] #[.pointer (some ⟨w.heap.size, 0, none⟩), .pointer (some ⟨w.heap.size + 1, 0, none⟩)])) := ((Kp.refl [] w3).alloc _).setCell (.inr (Nat.le_refl _)) _
  rw [hs3] at hst hb5 hk34
  obtain ⟨w4, hw4⟩ : ∃ w4, ((w3.alloc (.cells #[.nilFunc] 43)).setCell ⟨w.heap.size + 1 + 1 + 1, 0, none⟩ (.func (.func 19) #[] #[.pointer (some ⟨w.heap.size, 0, none⟩), .pointer (some ⟨w.heap.size + 1, 0, none⟩)])) = w4 := ⟨_, rfl⟩
  rw [hw4] at hst hb5 hk34
  rw [← hw3] at hst
  have hk4 := hk3.trans hk34
  have hge4 : w.heap.size ≤ w4.heap.size := hk4.size
  have HI0 : Hid (DropI p vs R f t w 0 w4 vs) := Lib.hid ⟨by rw [Rk_zero]; exact h.keep0 hk4, hk34.row (by simp) hb0, hk34.row (by simp) hb1, hk34.row (by simp) hb2, hb5, Lk.of_kp hk4, fun g hg => h.olt hg, h.lt⟩
  clear hb0 hb1 hb2 hb4 hb5 hk3 hk34 hk4 hw3 hw4 hs3
  gi_wp2
  refine range_rows rfl (by omega) trivial p rfl rfl (fun k W => ∃ vs', DropI p vs R f t w k W vs') (fun W => False)
    (fun s A B row hs hg hr => ?own) (fun s A B row hs hg hr => hs) ⟨vs, HI0.out⟩
    (fun k => { tmps := #[.pointer (some ⟨p, 0, none⟩), .int .i64 f, .int .i64 t, undef, .pointer (some ⟨w.heap.size, 0, none⟩), .pointer (some ⟨w.heap.size + 1, 0, none⟩), .int .i64 0, .pointer (some ⟨w.heap.size + 1 + 1, 0, none⟩), .pointer (some ⟨w.heap.size + 1 + 1 + 1, 0, none⟩), .pointer (some ⟨p, k, none⟩), undef, .func (.func 19) #[] #[.pointer (some ⟨w.heap.size, 0, none⟩), .pointer (some ⟨w.heap.size + 1, 0, none⟩)], .pointer (some ⟨p, 0, none⟩), .func (.func 20) #[.pointer (some ⟨p, 0, none⟩)] #[], .pointer (some ⟨p, k, none⟩), undef, undef, undef, undef, undef, undef, undef, undef, undef, undef, undef, undef, undef, undef, undef, undef, undef, undef], defers := [] }) ?assign ?body ?done ?stop
  case own =>
    obtain ⟨vs', hI⟩ := hs
    exact ⟨vs', hI.ls.putOwn hg hr, row_putOwn hI.hf hg hr, row_putOwn hI.ht hg hr, row_putOwn hI.hd hg hr, row_putOwn hI.hg hg hr, hI.lk.putOwn (by omega) hg hr, hI.own, hI.plt⟩
  case assign =>
    intro l k W K hK
    gi_wp2
    exact hK
  case body =>
    rintro l k W hk ⟨vs', hI⟩
    have hp0 := hI.ls.cell hk
    have hf0 := cell_of_one hI.hf
    have ht0 := cell_of_one hI.ht
    have hg0 := cell_of_one hI.hg
    have hbx : ∀ b, w.heap.size ≤ b → b ∉ blk (vs' k) := fun b hb e => by have := hI.own b ⟨k, hk, e⟩; omega
    have hRk := hI.ls.rw k hk
    rw [Rk_at] at hRk
    have hdel : ∀ W1, Kp [] W W1 → Calls Try.prog 21 #[vs' k, .func (.func 19) #[] #[.pointer (some ⟨w.heap.size, 0, none⟩), .pointer (some ⟨w.heap.size + 1, 0, none⟩)]] W1 _ :=
      fun W1 hk1 => deleteFunc_any W1 (vs' k) (R k) 19 #[.pointer (some ⟨w.heap.size, 0, none⟩), .pointer (some ⟨w.heap.size + 1, 0, none⟩)] (goes f t) (hRk.keep0 hk1) (hn k hk) (fun _ _ => rfl)
        (fun x w2 hk2 => goes_any w2 f t x _ _ (cell_of_one (hk2.row (hbx _ (Nat.le_refl _)) (hk1.row (by simp) hI.hf))) (cell_of_one (hk2.row (hbx _ (Nat.le_succ _)) (hk1.row (by simp) hI.ht))))
    have hd0 := cell_of_one hI.hd
    have hfd := free_of_one hI.hd
    have hfp := hI.ls.free k
    obtain ⟨ao, cap, hv⟩ := hRk.form
    have hgl := gone_le R f t hn k (by omega)
    have hrl := hn k hk
    have hll := left_le f t (R k)
    have hpd : p ≠ w.heap.size + 1 + 1 := by have := hI.plt; omega
    have hpo : p ∉ blk (vs' k) := fun e => hI.ls.pne ⟨k, hk, e⟩
    have hdo := hbx (w.heap.size + 1 + 1) (by omega)
    have HI := Lib.hid hI
    rw [hv] at hp0 hdel hpo hdo
    have HV := Lib.hid hv
    have HG := Lib.hid (show gone R f t (k + 1) = gone R f t k + ((R k).length - (left f t (R k)).length) from rfl)
    change ∀ W1, Kp [] W W1 → Calls _ _ _ W1 (fun e w' => ∃ v', e = .returned v' ∧ Rw w' v' (left f t (R k)) ∧ blk v' = _ ∧ Kp _ W1 w' ∧ ∃ ao cap, v' = .slice ao (left f t (R k)).length cap) at hdel
    obtain ⟨n5, hn5⟩ : ∃ n, n = (left f t (R k)).length := ⟨_, rfl⟩
    obtain ⟨n4, hn4⟩ : ∃ n, n = (R k).length := ⟨_, rfl⟩
    obtain ⟨n3, hn3⟩ : ∃ n, n = gone R f t k := ⟨_, rfl⟩
    have H5 := Lib.hid hn5
    have H4 := Lib.hid hn4
    have H3 := Lib.hid hn3
    rw [← hn5] at hdel hll
    rw [← hn4] at hp0 hdel hll hrl hpo hdo
    rw [← hn3] at hd0 hgl
    clear hI HI0 hst hmf h hRk hbx hv hn3 hn4 hn5 hn
    have hmx : Try.prog.follows .mixedOrders = true := by kernel_rfl
    gi_wp2
    refine round_region_tail 4 hmx (by kernel_rfl) (by kernel_rfl) ?_
    simp only [List.take_succ_cons, List.take_zero, List.drop_succ_cons, List.drop_zero]
    repeat still_step
    refine wpStill_nil ?_
    gi_wp2_with (refine ⟨trivial, ?_⟩; gi_at_call 21; refine (CallsIn.inRound l (callsIn_wide.2 (hdel _ (Kp.refl _ _).drew))).mono ?_; rintro e w5 ⟨v', rfl, hR5, hb5, hk5, ao5, cap5, rfl⟩)
    have hk6 := hk5.drew
    have hk7 : Kp (blk (.slice ao n4 cap)) W w5.drew := ((kp_drewN (S := []) W 1).mono (by simp)).trans hk6
    have hR6 : Rw w5.drew (.slice ao5 n5 cap5) (left f t (R k)) := hR5.keep0 ((Kp.refl _ _).drew)
    have c6 := cell_of_one (hk7.row hdo HI.out.hd)
    rw [← H3.out] at c6
    have f6 := free_of_one (hk7.row hdo HI.out.hd)
    have c7 := (World.cell?_of_block (a := ⟨p, k, none⟩) (hk7.block p HI.out.ls.lt hpo)).trans hp0
    have f7 := (World.frozen?_of_block (a := ⟨p, k, none⟩) (hk7.block p HI.out.ls.lt hpo)).trans hfp
    have hz : ((n3 : Int) + ((n4 : Int) - (n5 : Int))) = ((gone R f t (k + 1) : Nat) : Int) := by have := HG.out; have := H5.out; have := H4.out; have := H3.out; omega
    have hb6 : blk (.slice ao5 n5 cap5) = blk (vs' k) := by rw [HV.out, ← H4.out]; exact hb5
    have hk8 : Kp (blk (vs' k)) W w5.drew := by rw [HV.out, ← H4.out]; exact hk7
    have fin := Lib.hid (drop_step (B := w4.heap.size) hk HI.out hR6 hb6 hk8 hz)
    clear hR5 hR6 hb5 hb6 hk5 hk6 hk7 hk8 hz hp0 hf0 ht0 hg0 hfd hfp hd0 hdel HI HV HG H3 H4 H5
    refine round_region_tail 9 hmx (by kernel_rfl) (by kernel_rfl) ?_
    simp only [List.take_succ_cons, List.take_zero, List.drop_succ_cons, List.drop_zero]
    generalize w5.drew = w6 at c6 f6 c7 f7 fin ⊢
    repeat still_step
    refine wpStill_nil ?_
    gi_wp2
    exact fin.out
  case done =>
    rintro D W hD ⟨vs', hI⟩ hK
    have hcr := cell_of_one hI.hd
    have HI := Lib.hid hI
    clear hI HI0 hst hmf
    gi_wp2
    refine ⟨by simp, .inl ⟨_, _, rfl, run_takeDeferred hK, ?_⟩⟩
    refine ⟨_, results_tmp rfl _ _ _, rfl, vs', HI.out.ls.putOwn (B := w4.heap.size) (grownBy_putObj' _ D _) (fun r e => by cases e; exact ⟨hD, _, hK, rfl⟩), HI.out.lk.putOwn hge4 (grownBy_putObj' _ D _) (fun r e => by cases e; exact ⟨hD, _, hK, rfl⟩)⟩
  case stop =>
    rintro D W hD hI hK
    exact hI.elim

/-- Of no list: the function that is ranged over asks for no round. -/
theorem each_none (F : Fence) (n : Nat) (hf : F.fn 20) (hro : F.round = none) (l : Nat) (W : World) :
    CallsIn F n Try.prog 20 #[.pointer none, .func (.yield l) #[] #[]] W fun e W' => (∃ v, e = .returned v) ∧ W' = W := by
  refine callsIn_of_wp Try.func20 rfl hf ?_ hro
  simp only [Try.ntmps20, List.size_toArray, List.length_cons, List.length_nil, Nat.reduceAdd, Nat.reduceSub, Array.replicate_succ, Array.replicate_zero, List.push_toArray, List.append_toArray, List.nil_append, List.cons_append]
  gi_wp2
  refine bodyPost_ret (results_none rfl _ _ _) rfl ?_
  exact ⟨⟨_, rfl⟩, rfl⟩

theorem range_none {F : Fence} {n : Nat} {g : Operand} {ps : Array Tmp} {assign body : Code} {Q : Exit → Act → World → Prop} {a : Act} {w : World}
    (hro : F.round = none) (h2 : 1 ≤ n) (hf : F.fn 20) (hg : a.eval g = .func (.func 20) #[.pointer none] #[])
    (hdone : ∀ (D : Nat) (W : World), w.heap.size ≤ D → Kp [] w W → W.heap[D]? = some (.deferred (some [])) → Q .normal { a with defers := { target := .collected D, args := #[] } :: a.defers } W) :
    (Code.rangeFunc g ps assign body).wpIn F n Try.prog Q a w := by
  refine wpIn_rangeFunc fun fn hfn => ?_
  rw [hro]
  let rec' : LoopState → Option Code → Obj := fun st pe => .loop { state := st, pending := pe, fn, tmps := a.tmps, params := ps, assign, body, defers := w.heap.size }
  have e1 := run_enterLoop_outer (P := Try.prog) (w := w) fn a.tmps ps assign body
  obtain ⟨W1, hW1⟩ : ∃ W1, (w.alloc (.deferred (some []))).alloc (rec' .ready none) = W1 := ⟨_, rfl⟩
  have hL1 : W1.heap[w.heap.size + 1]? = some (rec' .ready none) := by rw [← hW1]; exact heap_alloc2_new w _ _
  have hK1 : W1.heap[w.heap.size]? = some (.deferred (some [])) := by rw [← hW1]; exact heap_alloc2_old w _ _
  have hkp : Kp [] w W1 := by rw [← hW1]; exact ((Kp.refl _ _).alloc _).alloc _
  refine ⟨w.heap.size + 1, [{ target := .collected w.heap.size, args := #[] }], W1, { target := .fn (.func 20) #[], args := #[.pointer none, .func (.yield (w.heap.size + 1)) #[] #[]] }, W1, 20,
    #[.pointer none, .func (.yield (w.heap.size + 1)) #[] #[]], W1, ?_, ?_, ?_, ?_, fun _ => h2, ?_⟩
  · rw [e1, ← hW1]
  · simp only [resolve, hg]
    simp [go_sem]
  · intro f' hf'
    simp [Target.leads] at hf'
    subst hf'; exact hf
  · have eg := enters_of Try.func20 (by kernel_rfl) rfl
    simp [invoke, go_sem, eg]
  · refine (each_none F (n - 1) hf hro (w.heap.size + 1) W1).mono ?_
    rintro e W2 ⟨⟨v, rfl⟩, rfl⟩
    exact ⟨none, _, run_endLoop hL1 (by simp), hdone _ _ (Nat.le_refl _) (hkp.grown (grownBy_putObj' _ _ _) (fun k e => by cases e; exact .inr (by omega))) ((World.putObj_heap_other (by omega)).trans hK1)⟩

set_option maxRecDepth 100000 in
theorem has_nil (w : World) (x : Int) : Calls Try.prog 14 #[.pointer none, .int .i64 x] w fun e w' => e = .returned (.bool false) ∧ Kp [] w w' := by
  refine (callsIn_wide (n := 3)).1 ?_
  refine callsIn_of_wp_marks Try.func14 rfl trivial ?_ rfl
  simp only [Try.ntmps14, List.size_toArray, List.length_cons, List.length_nil, Nat.reduceAdd, Nat.reduceSub, Array.replicate_succ, Array.replicate_zero, List.push_toArray, List.append_toArray, List.nil_append, List.cons_append]
  have hmf : ∀ (fn : Fn) (first cap : Array Value) (w : World), (Instr.makeFunc fn first cap).run Try.prog w = .ok (.func fn first cap) w := fun _ _ _ _ => rfl
  gi_wp2
  have hk0 : Kp [] w ((w.alloc (.cells #[.int .i64 x] 3)).alloc (.cells #[.bool false] 4)) := ((Kp.refl _ _).alloc _).alloc _
  have b1 := heap_alloc2_new w (.cells #[.int .i64 x] 3) (.cells #[.bool false] 4)
  refine range_none rfl (by omega) trivial rfl ?_
  intro D W hD hkp hK
  have hk1 := hk0.trans hkp
  have hr := hkp.row (by simp) b1
  have hcr := cell_of_one hr
  have hfr := free_of_one hr
  have HK := Lib.hid hk1
  clear hk0 b1 hkp hk1 hmf
  gi_wp2
  have hks : Kp [w.heap.size + 1] W (W.setCell ⟨w.heap.size + 1, 0, none⟩ (.bool false)) := (Kp.refl _ _).setCell (.inl (by simp)) _
  have hne : D ≠ w.heap.size + 1 := by simp at hD; omega
  have hK' := hks.row (by simpa using hne) hK
  refine ⟨by simp, .inl ⟨_, _, rfl, run_takeDeferred hK', ?_⟩⟩
  have hc5 := cell_kept (World.cell?_setCell_same' W ⟨w.heap.size + 1, 0, none⟩ (.bool false) (by rw [hcr]; rfl)) (grownBy_putObj' _ D (.deferred none)) (fun r e => by cases e; exact ⟨_, hK', rfl⟩)
  refine ⟨.bool false, ?_, rfl, ?_⟩
  · simp [results, Try.f14, go_sem, hc5]
  · exact (HK.out.setCell (.inr (by simp)) _).grown (grownBy_putObj' _ D _) (fun k e => by cases e; exact .inr (by simp at hD; omega))

set_option maxRecDepth 100000 in
theorem drop_nil (w : World) (f t : Int) : Calls Try.prog 10 #[.pointer none, .int .i64 f, .int .i64 t] w fun e w' => e = .returned (.int .i64 0) ∧ Kp [] w w' := by
  refine (callsIn_wide (n := 3)).1 ?_
  refine callsIn_of_wp_marks Try.func10 rfl trivial ?_ rfl
  simp only [Try.ntmps10, List.size_toArray, List.length_cons, List.length_nil, Nat.reduceAdd, Nat.reduceSub, Array.replicate_succ, Array.replicate_zero, List.push_toArray, List.append_toArray, List.nil_append, List.cons_append]
  have hmf : ∀ (fn : Fn) (first cap : Array Value) (w : World), (Instr.makeFunc fn first cap).run Try.prog w = .ok (.func fn first cap) w := fun _ _ _ _ => rfl
  obtain ⟨w3, hw3⟩ : ∃ w3, ((w.alloc (.cells #[.int .i64 f] 3)).alloc (.cells #[.int .i64 t] 3)).alloc (.cells #[.int .i64 0] 3) = w3 := ⟨_, rfl⟩
  have hs3 : w3.heap.size = w.heap.size + 1 + 1 + 1 := by rw [← hw3]; simp
  have hb4 := heap_alloc_new w3 (.cells #[.nilFunc] 43)
  have hst := store_one (cell_of_one hb4) (free_of_one hb4) (v := .func (.func 19) #[] #[.pointer (some ⟨w.heap.size, 0, none⟩), .pointer (some ⟨w.heap.size + 1, 0, none⟩)]) rfl
  have hb2 : w3.heap[w.heap.size + 1 + 1]? = some (.cells #[.int .i64 0] 3 (0, 0)) := by
    rw [← hw3]
    have := heap_alloc_new ((w.alloc (.cells #[.int .i64 f] 3)).alloc (.cells #[.int .i64 t] 3)) (.cells #[.int .i64 0] 3)
    simpa using this
  have hk3 : Kp [] w w3 := by rw [← hw3]; exact (((Kp.refl _ _).alloc _).alloc _).alloc _
  have hk34 : Kp [] w3 ((w3.alloc (.cells #[.nilFunc] 43)).setCell ⟨w3.heap.size, 0, none⟩ (.func (.func 19) #[] #[.pointer (some ⟨w.heap.size, 0, none⟩), .pointer (some ⟨w.heap.size + 1, 0, none⟩)])) := ((Kp.refl [] w3).alloc _).setCell (.inr (Nat.le_refl _)) _
  rw [hs3] at hst hk34
  obtain ⟨w4, hw4⟩ : ∃ w4, ((w3.alloc (.cells #[.nilFunc] 43)).setCell ⟨w.heap.size + 1 + 1 + 1, 0, none⟩ (.func (.func 19) #[] #[.pointer (some ⟨w.heap.size, 0, none⟩), .pointer (some ⟨w.heap.size + 1, 0, none⟩)])) = w4 := ⟨_, rfl⟩
  rw [hw4] at hst hk34
  rw [← hw3] at hst
  have HK := Lib.hid (And.intro (hk3.trans hk34) (hk34.row (by simp) hb2))
  clear hb2 hb4 hk3 hk34 hw3 hw4 hs3
  gi_wp2
  refine range_none rfl (by omega) trivial rfl ?_
  intro D W hD hkp hK
  have hcr := cell_of_one (hkp.row (by simp) HK.out.2)
  have HK2 := Lib.hid (HK.out.1.trans hkp)
  have hge4 := HK.out.1.size
  clear hst hmf hkp HK
  gi_wp2
  refine ⟨by simp, .inl ⟨_, _, rfl, run_takeDeferred hK, ?_⟩⟩
  exact ⟨_, results_tmp rfl _ _ _, rfl, HK2.out.grown (grownBy_putObj' _ D _) (fun k e => by cases e; exact .inr (by omega))⟩

end Go.Proofs.Ythcblhombfggaaa
