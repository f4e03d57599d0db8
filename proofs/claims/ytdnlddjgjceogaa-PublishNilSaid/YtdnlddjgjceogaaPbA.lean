/- Package publish, its walks: a worklist (a queue of places), the closure that shares, share. Conditions: as each theorem states them. -/
import Derived.Test.YtdnlddjgjceogaaWordTake
import Derived.Test.YtdnlddjgjceogaaArnK
import Derived.Test.YtdnlddjgjceogaaGr
import Derived.Deep.RegionWith
import Derived.Deep.RegionLaw
import Derived.Deep.CutBlock
import Derived.Deep.CutRange
import Derived.Deep.DeepCutAuto
namespace Go.Proofs.Ytdnlddjgjceogaa
set_option linter.unusedVariables false
set_option linter.unusedSimpArgs false
set_option maxRecDepth 100000
open Go.RowKit

/-- Is a word a Local object's header? -/
def locB (x : Int) : Bool := takeB x && decide (x % 4 = 2)
/-- The word of its header, once it is shared. -/
def pubI (x c : Int) : Int := wordI 3 c (x / 32 % 64) (x / 2048 % 128) (x / 262144 % 128) false false
/-- How many references a header says. -/
def nref (x : Int) : Int := if takeB x then x / 2048 % 128 else 0
abbrev hc7 (k c : Int) (g m : Bool) (o r s : Int) : Array Value := #[.int .u8 k, .int .u8 c, .bool g, .bool m, .int .u8 o, .int .u8 r, .int .u8 s]

theorem locB_take {x : Int} (h : locB x = true) : takeB x = true ∧ x % 4 = 2 := by simpa [locB] using h
theorem locB_may {x c : Int} (h : locB x = true) (h0 : 0 ≤ c) (h1 : c ≤ 1) : mayB 3 c (x / 32 % 64) (x / 2048 % 128) (x / 262144 % 128) false false = true := by
  obtain ⟨h2, h3⟩ := locB_take h
  simp only [takeB, Bool.and_eq_true] at h2
  have := mayB_iff.1 h2.2
  rw [mayB_iff]
  refine ⟨by omega, by omega, by omega, by omega, by omega, by omega, by simp, by omega⟩
theorem locB_zero {x : Int} (h : locB x = true) : x / 4 % 2 = 0 ∧ (x / 8 % 2 == 1) = false := by
  obtain ⟨h2, h3⟩ := locB_take h
  simp only [takeB, Bool.and_eq_true] at h2
  have := mayB_iff.1 h2.2
  exact this.2.2.2.2.2.1 h3
theorem pubI_bounds {x c : Int} (h : locB x = true) (h0 : 0 ≤ c) (h1 : c ≤ 1) : 0 ≤ pubI x c ∧ pubI x c < 33554432 :=
  word_lt _ _ _ _ _ _ _ (by omega) h0 (by omega) (by omega) (by omega) (locB_may h h0 h1)
theorem nref_bounds (x : Int) : 0 ≤ nref x ∧ nref x ≤ 127 := by unfold nref; split <;> omega

/-- word.Take, whatever word: a header whose references are 'nref'. -/
theorem take_ref (x : Int) (h0 : 0 ≤ x) (h1 : x < 18446744073709551616) : ∃ k c o s n g m, locB x = (decide (k = 2)) ∧ (∀ w, Calls Try.prog 15 #[.int .u64 x] w fun e w' => e = .returned (.tuple #[.agg (hc7 k c g m o (nref x) s), .int .i64 n]) ∧ Kp [] w w') := by
  by_cases ht : takeB x = true
  · refine ⟨x % 4, x / 4 % 2, x / 32 % 64, x / 262144 % 128, 0, x / 8 % 2 == 1, x / 16 % 2 == 1, by simp [locB, ht], fun w => ?_⟩
    rw [nref, if_pos ht]
    exact (take_some x w h0 ht).mono fun e w' ⟨he, hb⟩ => ⟨he, kp_of_below hb⟩
  · refine ⟨0, 0, 0, 0, 3, false, false, by simp [locB, ht], fun w => ?_⟩
    rw [nref, if_neg ht]
    exact (take_none x w h0 h1 (by simpa using ht)).mono fun e w' ⟨he, hb⟩ => ⟨he, kp_of_below hb⟩
theorem take_loc (x : Int) (w : World) (h0 : 0 ≤ x) (h : locB x = true) : Calls Try.prog 15 #[.int .u64 x] w fun e w' => e = .returned (.tuple #[.agg (hc7 2 0 false (x / 16 % 2 == 1) (x / 32 % 64) (x / 2048 % 128) (x / 262144 % 128)), .int .i64 0]) ∧ Kp [] w w' := by
  obtain ⟨h2, h3⟩ := locB_take h
  obtain ⟨h4, h5⟩ := locB_zero h
  have := take_some x w h0 h2
  rw [h3, h4, h5] at this
  exact this.mono fun e w' ⟨he, hb⟩ => ⟨he, kp_of_below hb⟩
theorem put_loc (x c : Int) (w : World) (h : locB x = true) (hc0 : 0 ≤ c) (hc1 : c ≤ 1) : Calls Try.prog 30 #[.agg (hc7 3 c false false (x / 32 % 64) (x / 2048 % 128) (x / 262144 % 128))] w fun e w' => e = .returned (.tuple #[.int .u64 (pubI x c), .int .i64 0]) ∧ Kp [] w w' :=
  (put_yes 3 c _ _ _ false false w (by omega) hc0 (by omega) (by omega) (by omega) (locB_may h hc0 hc1)).mono fun e w' ⟨he, hb⟩ => ⟨he, kp_of_below hb⟩

/-- A queue of places: what a slice leads to that is cut at its front and grows at its end. -/
structure Qw (base : Nat) (w : World) (v : Value) (xs : List Int) : Prop where
  q : (v = .slice none 0 0 ∧ xs = []) ∨ ∃ b off cap cur, v = .slice (some ⟨b, off, none⟩) xs.length cap ∧ base ≤ b ∧ w.heap[b]? = some (.cells cur 3 (0, 0)) ∧ xs.length ≤ cap ∧ off + cap ≤ cur.size ∧ ∀ j, j < xs.length → cur[off + j]? = some (.int .i64 (xs.getD j 0))
section
variable {base : Nat} {w w' : World} {v : Value} {xs : List Int}
theorem Qw.nil (base : Nat) (w : World) : Qw base w (.slice none 0 0) [] := ⟨.inl ⟨rfl, rfl⟩⟩
theorem Qw.keep {S : List Nat} (h : Qw base w v xs) (k : Kp S w w') (hS : ∀ b ∈ blk v, b ∉ S) : Qw base w' v xs := by
  rcases h.q with h | ⟨b, off, cap, cur, rfl, h1, h2, h3⟩
  · exact ⟨.inl h⟩
  · exact ⟨.inr ⟨b, off, cap, cur, rfl, h1, k.row (hS b (by simp [blk_some])) h2, h3⟩⟩
theorem Qw.keep0 (h : Qw base w v xs) (k : Kp [] w w') : Qw base w' v xs := h.keep k (by simp)
theorem Qw.block (h : Qw base w v xs) : ∀ b ∈ blk v, base ≤ b ∧ ∃ cur, w.heap[b]? = some (.cells cur 3 (0, 0)) := by
  intro b hb
  rcases h.q with ⟨rfl, _⟩ | ⟨b', off, cap, cur, rfl, h1, h2, _⟩
  · simp [blk_nil] at hb
  · rw [blk_some, List.mem_singleton] at hb
    exact ⟨hb ▸ h1, cur, hb ▸ h2⟩
theorem Qw.nin {b : Nat} {x : Array Value} {t : TypeId} (h : Qw base w v xs) (hb : w.heap[b]? = some (.cells x t (0, 0))) (ht : 3 ≠ t) : b ∉ blk v := fun hm => by
  obtain ⟨_, c, hc⟩ := h.block b hm
  exact ne_types hc hb ht rfl
theorem Qw.form (h : Qw base w v xs) : ∃ ao c, v = .slice ao xs.length c := by
  rcases h.q with ⟨rfl, rfl⟩ | ⟨b, off, cap, cur, rfl, _⟩
  · exact ⟨none, 0, rfl⟩
  · exact ⟨_, cap, rfl⟩
theorem Qw.formN (h : Qw base w v xs) {n : Nat} (hn : xs.length = n) : ∃ ao c, v = .slice ao n c := hn ▸ h.form
theorem qint_info : (Try.prog.info? 3).map (fun i => (i.zero, i.size, i.bytes)) = some (some (.int .i64 0), 1, 8) := by kernel_rfl
theorem Qw.of_row {n : Nat} {ys : List Value} (h : Rw 3 1 base w v n ys) (hy : ys = xs.map (Value.int .i64)) (hb : base = base) : Qw base w v xs := by
  have hl := h.len
  subst hy
  rcases h.own.2 with ⟨rfl, h0⟩ | ⟨b, c, cur, rfl, hge, hb, h1, h2, h3, h4⟩
  · exact ⟨.inl ⟨rfl, by simpa [h0] using hl⟩⟩
  · simp only [List.length_map, Nat.mul_one] at hl
    subst hl
    refine ⟨.inr ⟨b, 0, c, cur, rfl, hge, hb, h1, by omega, fun j hj => ?_⟩⟩
    have e : cur[0 + j]? = (cur.toList.take (xs.length * 1))[j]? := by rw [List.getElem?_take_of_lt (by omega)]; simp
    rw [e, h4]
    simp [List.getD, hj]
/-- One place more, behind all others. -/
theorem Qw.push (h : Qw base w v xs) (hb : base ≤ w.heap.size) (x : Int) (ad : Addr) (hx : w.cell? ad = some (.int .i64 x)) (hn : xs.length ≤ 100000) (ty : TypeId) :
    ∃ v' w', (Builtin.append_ #[32, 32] ty #[v, .slice (some ad) 1 1]).run Try.prog w = .ok v' w' ∧ Qw base w' v' (xs ++ [x]) ∧ Kp (blk v) w w' ∧ ∀ b ∈ blk v', b ∈ blk v ∨ w.heap.size ≤ b := by
  obtain ⟨i0, hi, hz0, hz1, hz2⟩ := info_parts qint_info
  have hnews : ∀ (j : Nat) (u : Value), [Value.int .i64 x][j]? = some u → w.cell? (ad.add j) = some u := by
    intro j u hu
    have hj : j = 0 := by
      have := (List.getElem?_eq_some_iff.1 hu).1
      simpa using this
    subst hj
    simp at hu
    subst hu
    simpa [Addr.add] using hx
  have hone : ∀ u ∈ [Value.int .i64 x], u.oneCell' = true := by simp [Value.oneCell']
  rcases h.q with ⟨rfl, rfl⟩ | ⟨b, off, cap, cur, rfl, h1, h2, h3, h4, h5⟩
  · obtain ⟨g, cap, w', r1, r2, r3, r4⟩ := run_app (T := 3) (t := 32) (ty := ty) (sz := 1) (base := base) (bytes := 8) Try.underlying32 ⟨i0, _, hi, hz0, hz1, hz2, rfl⟩ (by decide) (Rw.nil _ _ _ _) hb ad 1 1 [.int .i64 x] rfl hnews hone (by decide) (by decide) (by decide)
    refine ⟨_, w', r1, Qw.of_row r2 rfl rfl, r3, fun y hy => ?_⟩
    rw [blk_some, List.mem_singleton] at hy
    subst hy
    exact r4.imp id (fun e => by omega)
  · by_cases hr : xs.length + 1 ≤ cap
    · have hc : (w.cell? ⟨b, off + xs.length, none⟩).isSome = true := by
        rw [cell_of_row h2, Array.getElem?_eq_getElem (by omega)]
        rfl
      have := run_append_room_cells (P := Try.prog) w 32 ty 3 i0 Try.underlying32 hi b off xs.length cap ad 1 1 [.int .i64 x] (by rw [hz1]; rfl) hnews hone hr
        (fun j hj => by
          have : j = 0 := by simpa using hj
          subst this; rw [hz1]; simpa using hc) (fun j hj => by
          have : j = 0 := by simpa using hj
          subst this; rw [hz1]; exact free_of_row h2 _)
      rw [hz1] at this
      simp only [World.setCells, Nat.mul_one] at this
      refine ⟨_, _, this, ⟨.inr ⟨b, off, cap, _, by simp, h1, heap_setCell_same _ _ _ _ _ _ h2, by simpa using hr, by simpa using h4, fun j hj => ?_⟩⟩, (Kp.refl _ _).setCell (.inl (by simp [blk_some])) _, fun y hy => .inl hy⟩
      simp only [List.length_append, List.length_singleton] at hj
      rw [Array.getElem?_setIfInBounds]
      by_cases hj2 : j = xs.length
      · subst hj2
        rw [if_pos rfl, if_pos (by omega)]
        simp [List.getD]
      · rw [if_neg (by omega), h5 j (by omega)]
        simp [List.getD, List.getElem?_append_left (show j < xs.length by omega)]
    · obtain ⟨v', w', r1, r2, r3⟩ := run_append_arg_grows (P := Try.prog) w 32 ty 3 i0 (.int .i64 0) 1 8 Try.underlying32 hi hz0 hz1 hz2 rfl (by decide) ⟨b, off, none⟩ xs.length cap (xs.map (Value.int .i64)) (by simp)
        (fun j u hu => by
          rw [Addr.add_lit, cell_of_row h2]
          have hj : j < xs.length := by
            have := (List.getElem?_eq_some_iff.1 hu).1
            simpa using this
          rw [h5 j hj, ← hu]
          simp [List.getD, hj]) ad 1 1 [.int .i64 x] rfl hnews (by omega) (by unfold maxLen; omega) (by omega)
      have hrw : Rw 3 1 w.heap.size w' v' (xs.length + 1) (xs.map (Value.int .i64) ++ [.int .i64 x]) := ⟨r2⟩
      have hq : Qw w.heap.size w' v' (xs ++ [x]) := Qw.of_row hrw (by simp) rfl
      refine ⟨v', w', r1, ?_, ?_, fun y hy => ?_⟩
      · rcases hq.q with hq | ⟨b', off', cap', cur', q1, q2, q3⟩
        · exact ⟨.inl hq⟩
        · exact ⟨.inr ⟨b', off', cap', cur', q1, by omega, q3⟩⟩
      · exact ⟨r3.os, r3.tape, r3.output, r3.size, fun k hk _ => r3.block k hk (by simp)⟩
      · right
        exact (hq.block y hy).1
/-- The queue without its first place. -/
theorem Qw.pop {x : Int} (h : Qw base w v (x :: xs)) : ∃ b off cap, v = .slice (some ⟨b, off, none⟩) (xs.length + 1) cap ∧ w.cell? ⟨b, off, none⟩ = some (.int .i64 x) ∧ Qw base w (.slice (some (if cap = 1 then ⟨b, off, none⟩ else ⟨b, off + 1, none⟩)) xs.length (cap - 1)) xs := by
  rcases h.q with ⟨_, h⟩ | ⟨b, off, cap, cur, rfl, h1, h2, h3, h4, h5⟩
  · cases h
  · simp only [List.length_cons] at h3 h5
    refine ⟨b, off, cap, rfl, ?_, ?_⟩
    · rw [cell_of_row h2]
      have := h5 0 (by omega)
      simpa using this
    · by_cases hc : cap = 1
      · subst hc
        obtain rfl : xs = [] := List.eq_nil_of_length_eq_zero (by omega)
        rw [if_pos rfl]
        exact ⟨.inr ⟨b, off, 0, cur, rfl, h1, h2, by simp, by omega, fun j hj => by simp at hj⟩⟩
      · rw [if_neg hc]
        refine ⟨.inr ⟨b, off + 1, cap - 1, cur, rfl, h1, h2, by omega, by omega, fun j hj => ?_⟩⟩
        have := h5 (j + 1) (by omega)
        rw [show off + 1 + j = off + (j + 1) by omega, this]
        simp
end

section
variable {ops : Array Oper} {o : Oper} {a : Act} {K : Act → World → Prop} {Q : Exit → Act → World → Prop} {E : Prop} {w : World}
theorem pstep_append_eq {P : Program} {w2 : World} (hgd : o.guard = none) (s x : Operand) (t : TypeId) (ho : o.op = .call { callee := .builtin .append, args := #[s, x], argTypes := #[t, t] }) (sv xv v : Value) (hs : a.eval s = sv) (hx : a.eval x = xv)
    (hrun : (Builtin.append_ #[t, t] o.type #[sv, xv]).run P w = .ok v w2) (hK : K (a.put o.dst v) w2) : if Region.wanted o (yielded ops a.tmps) = true then Oper.wp P o a w K Q else E := by
  have hw : Region.wanted o (yielded ops a.tmps) = true := by simp [Region.wanted, hgd]
  rw [if_pos hw]
  unfold Oper.wp
  simp [execOp, ho, resolve, invoke, builtin, hs, hx, hrun, Result.andThen]
  exact hK
theorem step_push {base : Nat} {v : Value} {xs : List Int} {x : Int} {ad : Addr} (hgd : o.guard = none) (s y : Operand) (ho : o.op = .call { callee := .builtin .append, args := #[s, y], argTypes := #[32, 32] }) (hs : a.eval s = v) (hx : a.eval y = .slice (some ad) 1 1)
    (hq : Qw base w v xs) (hb : base ≤ w.heap.size) (hn : xs.length ≤ 100000) (hl : w.cell? ad = some (.int .i64 x))
    (hK : ∀ v' w', Qw base w' v' (xs ++ [x]) → Kp (blk v) w w' → (∀ b ∈ blk v', b ∈ blk v ∨ w.heap.size ≤ b) → K (a.put o.dst v') w') : if Region.wanted o (yielded ops a.tmps) = true then Oper.wp Try.prog o a w K Q else E := by
  obtain ⟨v', w', hrun, h1, h2, h3⟩ := hq.push hb x ad hl hn o.type
  exact pstep_append_eq hgd s y 32 ho _ _ _ hs hx hrun (hK v' w' h1 h2 h3)
end

/-- A box of one cell. -/
def Bx1 (w : World) (b : Nat) (v : Value) (t : TypeId) : Prop := w.heap[b]? = some (.cells #[v] t (0, 0))
theorem Bx1.cell {w : World} {b : Nat} {v : Value} {t : TypeId} (h : Bx1 w b v t) : w.cell? ⟨b, 0, none⟩ = some v := by rw [cell_of_row h]; rfl
theorem Bx1.free {w : World} {b : Nat} {v : Value} {t : TypeId} (h : Bx1 w b v t) : w.frozen? ⟨b, 0, none⟩ = false := free_of_row h 0
theorem Bx1.keep {S : List Nat} {w w' : World} {b : Nat} {v : Value} {t : TypeId} (h : Bx1 w b v t) (k : Kp S w w') (hb : b ∉ S) : Bx1 w' b v t := k.row hb h
theorem Bx1.set {w : World} {b : Nat} {v : Value} {t : TypeId} (h : Bx1 w b v t) (u : Value) : Bx1 (w.setCell ⟨b, 0, none⟩ u) b u t := by
  have := heap_setCell_same w b 0 _ _ u h
  simpa [Bx1] using this


set_option maxHeartbeats 8000000 in
theorem cl_yes {w : World} {base b1 b2 b3 b4 bw : Nat} {u v : Value} {xs : List Int} {x c at_ : Int} (h0 : 0 ≤ x) (hl : locB x = true) (hc0 : 0 ≤ c) (hc1 : c ≤ 1)
    (h1 : Bx1 w b1 v 32) (h2 : Bx1 w b2 (.pointer (some ⟨bw, 0, none⟩)) 34) (h3 : Bx1 w b3 (.int .i64 at_) 3) (h4 : Bx1 w b4 (.int .u8 c) 5) (hw : Bx1 w bw u 32)
    (hq : Qw base w v xs) (hb : base ≤ w.heap.size) (hn : xs.length ≤ 100000) :
    Calls Try.prog 29 #[.int .u64 x, .pointer (some ⟨b1, 0, none⟩), .pointer (some ⟨b2, 0, none⟩), .pointer (some ⟨b3, 0, none⟩), .pointer (some ⟨b4, 0, none⟩)] w fun e w' => e = .returned (.int .u64 (pubI x c)) ∧ ∃ v', Kp (bw :: blk v) w w' ∧ Bx1 w' bw v' 32 ∧ Qw base w' v' (xs ++ [at_]) ∧ ∀ b ∈ blk v', b ∈ blk v ∨ w.heap.size ≤ b := by
  have HT := Lib.hid (fun w => take_loc x w h0 hl)
  have HP := Lib.hid (fun w => put_loc x c w hl hc0 hc1)
  generalize pubI x c = y at HP ⊢
  generalize x / 32 % 64 = xo at HT HP
  generalize x / 2048 % 128 = xr at HT HP
  generalize x / 262144 % 128 = xz at HT HP
  generalize (x / 16 % 2 == 1) = xm at HT HP
  clear hl h0
  have n2 : b2 ≠ bw := ne_types h2 hw (by decide)
  have n3 : b3 ≠ bw := ne_types h3 hw (by decide)
  have n4 : b4 ≠ bw := ne_types h4 hw (by decide)
  have nq := hq.nin hw (by decide)
  obtain ⟨ao, cp, rfl⟩ := hq.form
  have e1 := h1.cell
  have e2 := h2.cell
  have fw := hw.free
  have cw := hw.cell
  have kw : Kp [bw] w (w.setCell ⟨bw, 0, none⟩ (.slice ao xs.length cp)) := (Kp.refl _ _).setCell (.inl (by simp)) _
  have hq1 := Lib.hid (hq.keep kw (fun b hb hb' => nq (by simp at hb'; exact hb' ▸ hb)))
  have hw1 := Lib.hid (hw.set (.slice ao xs.length cp))
  have h21 : Hid (Bx1 (w.setCell ⟨bw, 0, none⟩ (.slice ao xs.length cp)) b2 _ _) := Lib.hid (kw.row (by simpa using n2) h2)
  have h31 : Hid (Bx1 (w.setCell ⟨bw, 0, none⟩ (.slice ao xs.length cp)) b3 _ _) := Lib.hid (kw.row (by simpa using n3) h3)
  have h41 : Hid (Bx1 (w.setCell ⟨bw, 0, none⟩ (.slice ao xs.length cp)) b4 _ _) := Lib.hid (kw.row (by simpa using n4) h4)
  have K0 := Lib.hid kw
  have N := Lib.hid (And.intro n2 (And.intro n3 (And.intro n4 nq)))
  have HN := Lib.hid hn
  have HB := Lib.hid (show base ≤ (w.setCell ⟨bw, 0, none⟩ (.slice ao xs.length cp)).heap.size from Nat.le_trans hb kw.size)
  clear kw hq h1 h2 h3 h4 hw n2 n3 n4 nq hn hb
  generalize hW : w.setCell ⟨bw, 0, none⟩ (.slice ao xs.length cp) = w1 at hq1 hw1 h21 h31 h41 K0 HB
  have HWe := Lib.hid hW
  go_enter Try.func29, Try.ntmps29
  go_upto_region 2 with (fail)
  clear e1 e2 fw cw hW HWe
  go_wp2_with fail
  refine (HT.out _).mono ?_; rintro e w2 ⟨rfl, hk⟩
  have hw2 := Lib.hid (hw1.out.keep hk (by simp))
  have h22 := Lib.hid (h21.out.keep hk (by simp))
  have h32 := Lib.hid (h31.out.keep hk (by simp))
  have h42 := Lib.hid (h41.out.keep hk (by simp))
  have hq2 := Lib.hid (hq1.out.keep0 hk)
  have K2 := Lib.hid (K0.out.trans (hk.mono (by simp)))
  have HB2 := Lib.hid (Nat.le_trans HB.out hk.size)
  clear hk hw1 h21 h31 h41 hq1 HB HT
  go_upto_region 5 with (fail)
  have ka : Kp [] w2 (w2.alloc (.cells (hc7 2 0 false xm xo xr xz) 46)) := (Kp.refl _ _).alloc _
  have hw3 := hw2.out.keep ka (by simp)
  have h23 := h22.out.keep ka (by simp)
  have h33 := h32.out.keep ka (by simp)
  have h43 := Lib.hid (h42.out.keep ka (by simp))
  have hq3 := Lib.hid (hq2.out.keep0 ka)
  have hH3 : Hid ((w2.alloc (.cells (hc7 2 0 false xm xo xr xz) 46)).heap[w2.heap.size]? = some (.cells (hc7 2 0 false xm xo xr xz) 46 (0, 0))) := Lib.hid (heap_alloc_new _ _)
  have K3 := Lib.hid (K2.out.trans (ka.mono (by simp)))
  have HB3 := Lib.hid (Nat.le_trans HB2.out ka.size)
  clear ka hw2 h22 h32 h42 hq2 HB2 K0
  have cw := hw3.cell
  have fw := hw3.free
  have c2 := h23.cell
  have c3 := h33.cell
  have HZ := Lib.hid (show w.heap.size ≤ w2.heap.size from K2.out.size)
  generalize hz : w2.heap.size = bh at *
  generalize w2.alloc (.cells (hc7 2 0 false xm xo xr xz) 46) = w3 at *
  clear hz K2
  have HW3 := Lib.hid hw3
  clear hw3 h33
  have ka3 : Kp [] w3 (w3.alloc (.cells #[.int .i64 at_] 3)) := (Kp.refl _ _).alloc _
  have ca := (HW3.out.keep ka3 (by simp)).cell
  have ca2 := (h23.keep ka3 (by simp)).cell
  have H23 := Lib.hid (And.intro h23 (hq3.out.nin h23 (by decide)))
  clear ka3 h23
  go_cut [] from 21 to 38 (fun wd => ∃ v', Hid (Bx1 wd bw v' 32 ∧ Qw base wd v' (xs ++ [at_]) ∧ Kp (bw :: blk (.slice ao xs.length cp)) w wd ∧ wd.heap[bh]? = some (.cells (hc7 2 0 false xm xo xr xz) 46 (0, 0)) ∧ Bx1 wd b4 (.int .u8 c) 5 ∧ (∀ b ∈ blk v', b ∈ blk (.slice ao xs.length cp) ∨ w.heap.size ≤ b)))
  case first =>
    go_region_law (
      (refine step_push (x := at_) (base := base) (xs := xs) rfl (.tmp 24) (.tmp 26) rfl rfl rfl (hq3.out.keep0 (by first | exact (Kp.refl _ _).alloc _ | exact ((Kp.refl _ _).drew).alloc _ | exact ((Kp.refl _ _).alloc _).drew)) (Nat.le_trans HB3.out (Kp.size (S := []) (by first | exact (Kp.refl _ _).alloc _ | exact ((Kp.refl _ _).drew).alloc _ | exact ((Kp.refl _ _).alloc _).drew))) HN.out (by simp) ?_
       intro v' w4 hq4 hk4 hn4
       obtain ⟨ao4, cp4, rfl⟩ := hq4.formN (n := xs.length + 1) (by simp)
       have kk : Kp (blk (.slice ao xs.length cp)) w3 w4 := Kp.trans (Kp.mono (S := []) (by first | exact (Kp.refl _ _).alloc _ | exact ((Kp.refl _ _).drew).alloc _ | exact ((Kp.refl _ _).alloc _).drew) (by simp)) hk4
       have cw4 := (HW3.out.keep kk N.out.2.2.2).cell
       have fw4 := (HW3.out.keep kk N.out.2.2.2).free
       have c24 := (H23.out.1.keep kk H23.out.2).cell
       have HQ4 := Lib.hid hq4
       have K4 := Lib.hid kk
       have HN4 : Hid (∀ b ∈ blk (.slice ao4 (xs.length + 1) cp4), b ∈ blk (.slice ao xs.length cp) ∨ w3.heap.size ≤ b) := Lib.hid fun b hb => (hn4 b hb).imp id (fun h => Nat.le_trans (Kp.size (S := []) (by first | exact (Kp.refl _ _).alloc _ | exact ((Kp.refl _ _).drew).alloc _ | exact ((Kp.refl _ _).alloc _).drew)) h)
       clear hq4 hk4 hn4 kk))
    all_goals go_wp2_with fail
    all_goals go_meet
    all_goals
      have k5 : Kp [bw] w4 (w4.setCell ⟨bw, 0, none⟩ (.slice ao4 (xs.length + 1) cp4)) := (Kp.refl _ _).setCell (.inl (by simp)) _
      have hw4 := HW3.out.keep K4.out N.out.2.2.2
      have hH4 := hH3.out
      have nH : bh ∉ blk (.slice ao xs.length cp) := hq3.out.nin hH4 (by decide)
      have nH2 : bh ≠ bw := ne_types hH4 HW3.out (by decide)
      have n4 : b4 ∉ blk (.slice ao xs.length cp) := hq3.out.nin h43.out (by decide)
      have k0 : Kp (bw :: blk (.slice ao xs.length cp)) w w4 := (K3.out.mono (by simp)).trans (K4.out.mono (fun b hb _ => by simp [hb]))
      have kd : ∀ W : World, Kp [] W W.drew := fun W => (Kp.refl _ _).drew
      have F : Bx1 (w4.setCell ⟨bw, 0, none⟩ (.slice ao4 (xs.length + 1) cp4)) bw (.slice ao4 (xs.length + 1) cp4) 32 ∧ _ ∧ _ ∧ _ ∧ _ ∧ _ := ⟨hw4.set _, HQ4.out.keep k5 (fun b hb hb' => HQ4.out.nin hw4 (by decide) (by simp at hb'; exact hb' ▸ hb)), k0.trans (k5.mono (by simp)), k5.row (by simpa using nH2) (K4.out.row nH hH4), (h43.out.keep K4.out n4).keep k5 (by simpa using N.out.2.2.1), fun b hb => (HN4.out b hb).imp id (Nat.le_trans K3.out.size)⟩
      obtain ⟨F1, F2, F3, F4, F5, F6⟩ := F
      first
        | exact ⟨_, Lib.hid ⟨F1, F2, F3, F4, F5, F6⟩⟩
        | exact ⟨_, Lib.hid ⟨F1.keep (kd _) (by simp), F2.keep0 (kd _), F3.trans ((kd _).mono (by simp)), (kd _).row (by simp) F4, F5.keep (kd _) (by simp), F6⟩⟩
  case rest =>
    obtain ⟨v5, HF⟩ := hcut
    have hH5 := HF.out.2.2.2.1
    have c4 := HF.out.2.2.2.2.1.cell
    have d0 := (cell_of_row hH5 0).trans (show _ = some (.int .u8 2) from rfl)
    have d1 := (cell_of_row hH5 1).trans (show _ = some (.int .u8 0) from rfl)
    have d3 := (cell_of_row hH5 3).trans (show _ = some (.bool xm) from rfl)
    have f0 := free_of_row hH5
    clear hH5 cw fw c2 c3 ca ca2 H23 hH3 HW3 hq3 h43 HB3 K3
    have nb : bh ≠ b4 := ne_types HF.out.2.2.2.1 HF.out.2.2.2.2.1 (by decide)
    have nb' : b4 ≠ bh := Ne.symm nb
    go_upto_region 6 with (fail)
    go_cut [] from 29 to 38 (fun we => Hid (Kp [bh] wc we ∧ we.heap[bh]? = some (.cells (hc7 3 c false false xo xr xz) 46 (0, 0))))
    case first =>
      go_region
      all_goals go_wp2_with fail
      all_goals go_meet
      all_goals
        have e0 := HF.out.2.2.2.1
        have ks : ∀ (W W' : World) (i : Nat) (v : Value), Kp [bh] W W' → Kp [bh] W (W'.setCell ⟨bh, i, none⟩ v) := fun W W' i v h => h.setCell (.inl (by simp)) _
        refine Lib.hid ⟨?_, ?_⟩
        · repeat (first | exact Kp.refl _ _ | refine ks _ _ _ _ ?_ | refine Kp.drew ?_)
        · first
            | (rw [heap_setCell_same _ _ _ _ _ _ (heap_setCell_same _ _ _ _ _ _ (heap_setCell_same _ _ _ _ _ _ e0))]; rfl)
            | (rw [show ∀ W : World, W.drew.heap = W.heap from fun _ => rfl, heap_setCell_same _ _ _ _ _ _ (heap_setCell_same _ _ _ _ _ _ (heap_setCell_same _ _ _ _ _ _ e0))]; rfl)
            | (have e1 : wc.drew.heap[bh]? = _ := e0; rw [heap_setCell_same _ _ _ _ _ _ (heap_setCell_same _ _ _ _ _ _ (heap_setCell_same _ _ _ _ _ _ e1))]; rfl)
            | trace_state
    case rest =>
      rename_i we
      obtain ⟨K6, hH6⟩ := hcut.out
      have e0 := (cell_of_row hH6 0).trans (show _ = some (.int .u8 3) from rfl)
      have e1 := (cell_of_row hH6 1).trans (show _ = some (.int .u8 c) from rfl)
      have e2 := (cell_of_row hH6 2).trans (show _ = some (.bool false) from rfl)
      have e3 := (cell_of_row hH6 3).trans (show _ = some (.bool false) from rfl)
      have e4 := (cell_of_row hH6 4).trans (show _ = some (.int .u8 xo) from rfl)
      have e5 := (cell_of_row hH6 5).trans (show _ = some (.int .u8 xr) from rfl)
      have e6 := (cell_of_row hH6 6).trans (show _ = some (.int .u8 xz) from rfl)
      have hbh : bh ∉ blk v5 := HF.out.2.1.nin HF.out.2.2.2.1 (by decide)
      have hbw : bh ≠ bw := ne_types HF.out.2.2.2.1 HF.out.1 (by decide)
      have F7 : Hid (Kp (bw :: blk (.slice ao xs.length cp)) w wc ∧ Bx1 wc bw v5 32 ∧ Qw base wc v5 (xs ++ [at_]) ∧ ∀ b ∈ blk v5, b ∈ blk (.slice ao xs.length cp) ∨ w.heap.size ≤ b) :=
        Lib.hid ⟨⟨K6.os.trans HF.out.2.2.1.os, K6.tape.trans HF.out.2.2.1.tape, K6.output.trans HF.out.2.2.1.output, Nat.le_trans HF.out.2.2.1.size K6.size, fun k hk hn => (K6.block k (Nat.lt_of_lt_of_le hk HF.out.2.2.1.size) (by have := HZ.out; simp; omega)).trans (HF.out.2.2.1.block k hk hn)⟩, HF.out.1.keep K6 (by simpa using Ne.symm hbw), HF.out.2.1.keep K6 (fun b hb hb' => hbh (by simp at hb'; exact hb' ▸ hb)), HF.out.2.2.2.2.2⟩
      clear K6 hH6 hcut HF c4 d0 d1 d3 f0 nb nb' hbh hbw
      go_wp2_with fail
      refine (HP.out _).mono ?_; rintro e w7 ⟨rfl, hk⟩
      have F8 := Lib.hid (show Kp (bw :: blk (.slice ao xs.length cp)) w w7 ∧ Bx1 w7 bw v5 32 ∧ Qw base w7 v5 (xs ++ [at_]) ∧ ∀ b ∈ blk v5, b ∈ blk (.slice ao xs.length cp) ∨ w.heap.size ≤ b from ⟨F7.out.1.trans (hk.mono (by simp)), F7.out.2.1.keep hk (by simp), F7.out.2.2.1.keep0 hk, F7.out.2.2.2⟩)
      clear hk F7 e0 e1 e2 e3 e4 e5 e6
      go_wp2
      go_ret
      exact ⟨rfl, v5, F8.out⟩

/-- The closure of share, where the header is no Local object's. -/
theorem cl_no {w : World} {b1 b2 b3 b4 bw : Nat} {u : Value} {ao : Option Addr} {n cp : Nat} {x : Int} (h0 : 0 ≤ x) (hx : x < 18446744073709551616) (hl : locB x = false)
    (h1 : Bx1 w b1 (.slice ao n cp) 32) (h2 : Bx1 w b2 (.pointer (some ⟨bw, 0, none⟩)) 34) (hw : Bx1 w bw u 32) :
    Calls Try.prog 29 #[.int .u64 x, .pointer (some ⟨b1, 0, none⟩), .pointer (some ⟨b2, 0, none⟩), .pointer (some ⟨b3, 0, none⟩), .pointer (some ⟨b4, 0, none⟩)] w fun e w' => e = .returned (.int .u64 x) ∧ Kp [bw] w w' ∧ Bx1 w' bw (.slice ao n cp) 32 := by
  obtain ⟨k, c, o, s, e0, g, m, hlk, hT⟩ := take_ref x h0 hx
  rw [hl] at hlk
  have hk2 : (k != 2) = true := by simpa using hlk.symm
  have HT := Lib.hid hT
  clear hT hlk hl hx
  generalize nref x = r at HT
  have e1 := h1.cell
  have e2 := h2.cell
  have fw := hw.free
  have cw := hw.cell
  have kw : Kp [bw] w (w.setCell ⟨bw, 0, none⟩ (.slice ao n cp)) := (Kp.refl _ _).setCell (.inl (by simp)) _
  have hw1 := Lib.hid (hw.set (.slice ao n cp))
  have K0 := Lib.hid kw
  clear kw h1 h2 hw
  go_enter Try.func29, Try.ntmps29
  go_wp2_with fail
  refine (HT.out _).mono ?_; rintro e w2 ⟨rfl, hk⟩
  have F2 := Lib.hid (show Kp [bw] w (w2.alloc (.cells (hc7 k c g m o r s) 46)) ∧ Bx1 (w2.alloc (.cells (hc7 k c g m o r s) 46)) bw _ _ from ⟨(K0.out.trans (hk.mono (by simp))).alloc _, (hw1.out.keep hk (by simp)).keep ((Kp.refl [] _).alloc _) (by simp)⟩)
  clear hk K0 hw1 e1 e2 fw cw
  go_wp2
  go_ret
  exact ⟨rfl, F2.out⟩

end Go.Proofs.Ytdnlddjgjceogaa
