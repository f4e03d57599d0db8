/- The walks of layer layout, on: the places of global roots, entries, blocks. The arena of a layout as the walks hold it: its words, one touch each; what is asked of numbers. The walks of package give over whatever layout: Begin. Package give: what the closures of Claim and Back do. Written by gen/gv_z.py. Package give over an agent's memory, in company: Claim. Written by gen/gw_a.py. Package give over an agent's memory, in company: Claim as a whole. Written by gen/gw_b.py. Package give over an agent's memory, in company: Back, its pieces and its Write. Written by gen/gw_c.py. Conditions: as each theorem states them. -/
import Derived.Lib.Hide
import Derived.Deep.RegionWith
import Derived.LoopTactic
import Derived.Deep.LoopGhost
import Derived.Deep.CutBlock
import Derived.Deep.CutRange
import Derived.Deep.DeepCutAuto
import Derived.Test.YtnbaiinhalplcaaPg10
import Derived.Test.YtnbaiinhalplcaaPg15
namespace Go.Proofs.Ytnbaiinhalplcaa.Ly
set_option linter.unusedVariables false
set_option linter.unusedSimpArgs false
open Go.RowKit

/-- What tells the places of a row: a closure over three cells. -/
def RowAt (f n d : Int) (w : World) (e : Ending) (w' : World) : Prop :=
  ∃ bf bn bd : Nat, e = .returned (.func (.func 71) #[] #[.pointer (some ⟨bn, 0, none⟩), .pointer (some ⟨bf, 0, none⟩), .pointer (some ⟨bd, 0, none⟩)]) ∧
    w'.cell? ⟨bf, 0, none⟩ = some (.int .i64 f) ∧ w'.cell? ⟨bn, 0, none⟩ = some (.int .i64 n) ∧ w'.cell? ⟨bd, 0, none⟩ = some (.int .i64 d) ∧ Kp [] w w'
theorem row_at (f n d : Int) (w : World) : Calls Try.prog 58 #[.int .i64 f, .int .i64 n, .int .i64 d] w (RowAt f n d w) :=
  (row_of f n d w).mono fun e w' ⟨he, hw⟩ => ⟨_, _, _, he, by rw [← hw]; simp [go_sem], by rw [← hw]; simp [go_sem], by rw [← hw]; simp [go_sem], by rw [← hw]; exact (((Kp.refl _ _).alloc _).alloc _).alloc _⟩

set_option maxHeartbeats 1000000 in
theorem entry_is (t g b k p : Int) (w : World) (hp : rowP (3 + t + g) b 1 k = p) (t0 : 0 ≤ t) (t1 : t ≤ 64) (g0 : 0 ≤ g) (g1 : g ≤ 8) (b0 : 0 ≤ b) (b1 : b ≤ 64) : Calls Try.prog 38 #[.agg #[.int .i64 t, .int .i64 g, .int .i64 b], .int .i64 k] w fun e w' => e = .returned (.int .i64 p) ∧ Kp [] w w' := by
  have k0 := Lib.hid (fun w => table_is t g b w t0 t1 g0 g1)
  have k1 := Lib.hid (fun w => row_at (3 + t + g) b 1 w)
  have k2 := Lib.hid (fun bf bn bd w => place_is (3 + t + g) b 1 k p bf bn bd w hp (by omega) (by omega) b0 b1 (by omega) (by omega))
  clear hp
  have BN := Lib.hid (box3_new w t g b 27)
  go_enter Try.func38, Try.ntmps38
  go_wp2
  go_region_with (first
    | (go_at_call 53; refine (k0.out _).mono ?_; rintro e w1 ⟨rfl, hk⟩; have B1 := Lib.hid (box3_step (box3_drew BN.out) hk); clear hk; obtain ⟨s0, s1, s2, s7, s8⟩ := B1.out)
    | (go_at_call 58; refine (k1.out _).mono ?_; rintro e w2 ⟨bf, bn, bd, rfl, hf, hn, hd, hk2⟩))
  all_goals (
    have KK := Lib.hid ((kp_of_below s7).trans hk2)
    clear s0 s1 s2 s7 s8 B1 hk2
    go_wp2_with ((with_reducible refine (k2.out _ _ _ _ hf hn hd).mono ?_); rintro e w' ⟨rfl, rfl⟩)
    go_ret
    exact ⟨rfl, KK.out⟩)

end Go.Proofs.Ytnbaiinhalplcaa.Ly

namespace Go.Proofs.Ytnbaiinhalplcaa
set_option linter.unusedVariables false
set_option linter.unusedSimpArgs false
open Go.RowKit

/-- The arena at p, r has the words H, was touched t times; a layout of T threads, G global roots, n blocks fits into it. -/
structure Hw (T G n p r : Nat) (H : List Int) (t : Nat) (w : World) : Prop where
  ar : ∃ l, Ar w p r ⟨H, t, l⟩
  len : 3 + T + G + 33 * n ≤ H.length
  top : H.length ≤ 4096
  ok : ∀ k, 0 ≤ H.getD k 0 ∧ H.getD k 0 < 18446744073709551616
  hT : T ≤ 64
  hG : G ≤ 8
  hn : n ≤ 64

theorem ext_getD' {xs ys : List Int} (hl : xs.length = ys.length) (h : ∀ k, k < xs.length → xs.getD k 0 = ys.getD k 0) : xs = ys := by
  apply List.ext_getElem hl
  intro i h1 h2
  have := h i h1
  simpa [List.getD_eq_getElem?_getD, h1, h2] using this
theorem getD_set' (H : List Int) (k : Nat) (v : Int) (j : Nat) : (H.set k v).getD j 0 = if j = k ∧ k < H.length then v else H.getD j 0 := by
  by_cases h : j = k
  · subst h
    by_cases hj : j < H.length
    · simp [List.getD_eq_getElem?_getD, hj]
    · simp [List.getD_eq_getElem?_getD, hj, Nat.le_of_not_lt hj]
  · rw [if_neg (fun e => h e.1), List.getD_eq_getElem?_getD, List.getElem?_set_ne (fun e => h e.symm), ← List.getD_eq_getElem?_getD]
theorem set_same' (H : List Int) (k : Nat) : H.set k (H.getD k 0) = H := by
  apply ext_getD' (by simp)
  intro j hj
  rw [getD_set']
  split
  · rename_i e; rw [e.1]
  · rfl

section
variable {T G n p r t : Nat} {H : List Int} {w w' : World}
theorem Hw.keep {S : List Nat} (h : Hw T G n p r H t w) (k : Kp S w w') (hp : p ∉ S) (hr : r ∉ S) : Hw T G n p r H t w' :=
  let ⟨l, a⟩ := h.ar
  ⟨⟨l, a.keep k hp hr⟩, h.len, h.top, h.ok, h.hT, h.hG, h.hn⟩
theorem Hw.on (h : Hw T G n p r H t w) (k : Kp [] w w') : Hw T G n p r H t w' := h.keep k (by simp) (by simp)
theorem Hw.lt (h : Hw T G n p r H t w) : p < w.heap.size ∧ r < w.heap.size :=
  let ⟨_, a⟩ := h.ar
  a.lt
theorem Hw.put (h : Hw T G n p r H t w) {k : Nat} {v : Int} {t' : Nat} (h0 : 0 ≤ v) (h1 : v < 18446744073709551616) {l : Int} (a : Ar w' p r ⟨H.set k v, t', l⟩) : Hw T G n p r (H.set k v) t' w' := by
  refine ⟨⟨l, a⟩, by simpa using h.len, by simpa using h.top, fun j => ?_, h.hT, h.hG, h.hn⟩
  rw [getD_set']
  split
  · exact ⟨h0, h1⟩
  · exact h.ok j
theorem in_words (H : List Int) (t : Nat) (l : Int) (k : Nat) (hk : k < H.length) : inB ⟨H, t, l⟩ (k : Int) = true := by
  simp only [inB_iff]; omega

/-- A word is read. -/
theorem rd_word (h : Hw T G n p r H t w) (ht : t ≤ 900000) (k : Nat) (hk : k < H.length) (j x : Int) (hj : j = k) (hx : H.getD k 0 = x) : Calls Try.prog 14 #[.pointer (some ⟨p, 0, none⟩), .int .i64 j] w fun e w' => e = .returned (.int .u64 x) ∧ Hw T G n p r H (t + 1) w' ∧ Kp [p, r] w w' := by
  obtain ⟨l, a⟩ := h.ar
  subst hj
  have := read_any w p r _ (k : Int) a h.top (by show t ≤ 1000000; omega)
  have hin := in_words H t l k hk
  rw [was_in hin, upd_in hin] at this
  simp only [Int.toNat_natCast] at this
  rw [set_same', hx] at this
  exact this.mono fun e w' ⟨h1, h2, h3⟩ => ⟨h1, ⟨⟨_, h2⟩, h.len, h.top, h.ok, h.hT, h.hG, h.hn⟩, h3⟩
/-- A word is written. -/
theorem wr_word (h : Hw T G n p r H t w) (ht : t ≤ 900000) (k : Nat) (hk : k < H.length) (j x : Int) (hj : j = k) (h0 : 0 ≤ x) (h1 : x < 18446744073709551616) : Calls Try.prog 48 #[.pointer (some ⟨p, 0, none⟩), .int .i64 j, .int .u64 x] w fun e w' => e = .returned (.tuple #[]) ∧ Hw T G n p r (H.set k x) (t + 1) w' ∧ Kp [p, r] w w' := by
  obtain ⟨l, a⟩ := h.ar
  subst hj
  have := write_any w p r _ (k : Int) x a h.top (by show t ≤ 1000000; omega)
  rw [upd_in (in_words H t l k hk)] at this
  simp only [Int.toNat_natCast] at this
  exact this.mono fun e w' ⟨h2, h3, h4⟩ => ⟨h2, h.put h0 h1 h3, h4⟩
end

/-- Update at a place that there is, by a closure that turns blocks of its own (B) and makes memory. -/
theorem upd_boxes (w : World) (p r : Nat) (s : St) (k : Int) (g : FuncId) (cap : Array Value) (y : Int) (B : List Nat) (R : World → Prop) (h : Ar w p r s) (hn : s.ws.length ≤ 4096) (ht : s.t ≤ 1000000) (hk : inB s k = true) (hp : p ∉ B) (hr : r ∉ B)
    (hR : ∀ w2 w3, R w2 → Kp [r] w2 w3 → R w3)
    (hen : ∀ (x : Value) (w : World), (callFunc g (#[x] ++ cap)).run Try.prog w = .ok (.enter g (#[x] ++ cap)) w)
    (hcall : ∀ w1, Kp [p] w w1 → Calls Try.prog g (#[.int .u64 (was s k)] ++ cap) w1 fun e w' => e = .returned (.int .u64 y) ∧ Kp B w1 w' ∧ R w') :
    Calls Try.prog 43 #[.pointer (some ⟨p, 0, none⟩), .int .i64 k, .func (.func g) #[] cap] w fun e w' => e = .returned (.int .u64 (was s k)) ∧ Ar w' p r (upd s k y) ∧ Kp (p :: r :: B) w w' ∧ R w' := by
  have hmf : ∀ (fn : Fn) (first cap : Array Value) (w : World), (Instr.makeFunc fn first cap).run Try.prog w = .ok (.func fn first cap) w := fun _ _ _ _ => rfl
  have hfn := func_nil
  obtain ⟨hk0, hk1⟩ := inB_iff.1 hk
  have hk3 : k.toNat < s.ws.length := by omega
  have HC := hcall (tw w p s.t k) (tw_kp w p s.t k)
  rw [was_in hk] at HC ⊢
  rw [upd_in hk]
  have hcr : Hid (∀ w2, Kp B (tw w p s.t k) w2 → w2.cell? ⟨r, k.toNat, none⟩ = some (.int .u64 (s.ws.getD k.toNat 0)) ∧ w2.frozen? ⟨r, k.toNat, none⟩ = false) :=
    Lib.hid fun w2 h2 => ⟨((h.tw k).keep h2 hp hr).cr hk3, ((h.tw k).keep h2 hp hr).fr _⟩
  have HF : Hid (∀ w2, Kp B (tw w p s.t k) w2 → R w2 → Ar (w2.setCell ⟨r, k.toNat, none⟩ (.int .u64 y)) p r ⟨s.ws.set k.toNat y, s.t + 1, k⟩ ∧ Kp (p :: r :: B) w (w2.setCell ⟨r, k.toNat, none⟩ (.int .u64 y)) ∧ R (w2.setCell ⟨r, k.toNat, none⟩ (.int .u64 y))) :=
    Lib.hid fun w2 h2 h3 => ⟨((h.tw k).keep h2 hp hr).store _ _, (((tw_kp w p s.t k).mono (by simp)).trans (h2.mono (fun x hx _ => by simp [hx]))).setCell (.inl (by simp)) _, hR _ _ h3 ((Kp.refl [r] w2).setCell (.inl (by simp)) _)⟩
  have hto := touch_in w p r s k h hn ht hk
  clear hcall hR
  generalize s.ws.getD k.toNat 0 = x0 at HC hcr ⊢
  generalize tw w p s.t k = w1 at HC hcr hto HF ⊢
  go_enter_defers Try.func43, Try.ntmps43
  go_wp2_with (go_at_call 61; refine hto.mono ?_; rintro e w1 ⟨rfl, rfl⟩; have hcr1 := (hcr.out _ (Kp.refl _ _)).1)
  refine HC.mono ?_
  rintro e w2 ⟨rfl, hk2, h3⟩
  obtain ⟨hc2, hf2⟩ := hcr.out w2 hk2
  have HK := Lib.hid (HF.out w2 hk2 h3)
  clear hk2 hcr h3
  go_wp2_with fail
  refine leaves_cons (f := 60) (args := #[]) (by simp) (by simp [go_sem]) ?_
  refine (catch_idle _).mono ?_
  rintro e u' w'' ⟨rfl, rfl, rfl⟩
  simp only [Leaves, settle, results, Try.results43]
  simp [go_sem]
  exact HK.out

/-- The map is made another one by a closure over its own boxes. -/
theorem up_map {T G n p r t : Nat} {H : List Int} {w : World} (h : Hw T G n p r H t w) (ht : t ≤ 900000) (f : FuncId) (cap : Array Value) (M y : Nat) (B : List Nat) (R : World → Prop) (hM : H.getD 0 0 = M) (hy : y < 18446744073709551616) (hp : p ∉ B) (hr : r ∉ B)
    (hR : ∀ w2 w3, R w2 → Kp [r] w2 w3 → R w3)
    (hen : ∀ (x : Value) (w : World), (callFunc f (#[x] ++ cap)).run Try.prog w = .ok (.enter f (#[x] ++ cap)) w)
    (hcall : ∀ w1, Kp [p] w w1 → Calls Try.prog f (#[.int .u64 M] ++ cap) w1 fun e w' => e = .returned (.int .u64 y) ∧ Kp B w1 w' ∧ R w') :
    Calls Try.prog 43 #[.pointer (some ⟨p, 0, none⟩), .int .i64 0, .func (.func f) #[] cap] w fun e w' => e = .returned (.int .u64 M) ∧ Hw T G n p r (H.set 0 y) (t + 1) w' ∧ Kp (p :: r :: B) w w' ∧ R w' := by
  obtain ⟨l, a⟩ := h.ar
  have hl := h.len
  have hin : inB ⟨H, t, l⟩ 0 = true := in_words H t l 0 (by omega)
  have hw : was ⟨H, t, l⟩ 0 = M := by rw [was_in hin]; exact hM
  have := upd_boxes w p r _ 0 f cap y B R a h.top (by show t ≤ 1000000; omega) hin hp hr hR hen (by rw [hw]; exact hcall)
  rw [hw, upd_in hin] at this
  exact this.mono fun e w' ⟨h1, h2, h3, h4⟩ => ⟨h1, h.put (by omega) (by omega) h2, h3, h4⟩

/-- What is asked of numbers. -/
theorem g_mayRun (r : Int) (b : Bool) (w : World) (h : decide (1 ≤ r ∧ r ≤ 3) = b) : Calls Try.prog 33 #[.int .i64 r] w fun e w' => e = .returned (.bool b) ∧ w = w' := by
  have HH := Lib.hid h
  clear h
  go_enter Try.func33, Try.ntmps33
  go_wp2
  all_goals go_ret
  all_goals exact ⟨Bm.ret_bool (by rw [← HH.out, Bool.eq_iff_iff]; simp only [decide_eq_true_eq, Bool.false_eq_true]; constructor <;> intro hq <;> first | exact hq.elim | omega), rfl⟩

theorem g_has (T G n : Nat) (b r : Int) (w : World) (hn : n ≤ 64) : Calls Try.prog 37 #[.agg #[.int .i64 T, .int .i64 G, .int .i64 n], .int .i64 b, .int .i64 r] w fun e w' => e = .returned (.bool (runG n b r)) ∧ Kp [] w w' := by
  have hb := Lib.hid (fun w => Ly.blocks_is T G n w)
  rcases (by omega : ¬ (1 ≤ r ∧ r ≤ 3) ∨ (1 ≤ r ∧ r ≤ 3 ∧ b < 0) ∨ (1 ≤ r ∧ r ≤ 3 ∧ 0 ≤ b ∧ (n : Int) - r < b) ∨ (1 ≤ r ∧ r ≤ 3 ∧ 0 ≤ b ∧ b ≤ (n : Int) - r)) with h1 | ⟨h1, h2, h3⟩ | ⟨h1, h2, h3, h4⟩ | ⟨h1, h2, h3, h4⟩
  · rw [runG_not.2 (by omega)]
    have hm := g_mayRun r false (w.alloc (.cells #[.int .i64 T, .int .i64 G, .int .i64 n] 27)) (by simp; omega)
    go_enter Try.func37, Try.ntmps37
    go_wp2_with ((with_reducible refine hm.mono ?_); rintro e w' ⟨rfl, rfl⟩)
    go_ret
    exact ⟨rfl, (Kp.refl _ _).alloc _⟩
  all_goals
    have hm := g_mayRun r true (w.alloc (.cells #[.int .i64 T, .int .i64 G, .int .i64 n] 27)) (by simp; omega)
  · rw [runG_not.2 (by omega)]
    go_enter Try.func37, Try.ntmps37
    go_wp2_with ((with_reducible refine hm.mono ?_); rintro e w' ⟨rfl, rfl⟩)
    go_ret
    exact ⟨rfl, (Kp.refl _ _).alloc _⟩
  · rw [runG_not.2 (by omega)]
    go_enter Try.func37, Try.ntmps37
    go_wp2_with (first | ((with_reducible refine hm.mono ?_); rintro e w' ⟨rfl, rfl⟩) | ((with_reducible refine (hb.out _).mono ?_); rintro e w' ⟨rfl, hk⟩; have K := Lib.hid (((Kp.refl [] w).alloc _).trans hk); clear hk))
    go_ret
    exact ⟨Bm.ret_bool (by simp; omega), K.out⟩
  · rw [runG_iff.2 (by omega)]
    go_enter Try.func37, Try.ntmps37
    go_wp2_with (first | ((with_reducible refine hm.mono ?_); rintro e w' ⟨rfl, rfl⟩) | ((with_reducible refine (hb.out _).mono ?_); rintro e w' ⟨rfl, hk⟩; have K := Lib.hid (((Kp.refl [] w).alloc _).trans hk); clear hk))
    go_ret
    exact ⟨rfl, K.out⟩

end Go.Proofs.Ytnbaiinhalplcaa

namespace Go.Proofs.Ytnbaiinhalplcaa
set_option linter.unusedVariables false
set_option linter.unusedSimpArgs false
open Go.RowKit

theorem kp_cell {S : List Nat} {w w' : World} (k : Kp S w w') {g o : Nat} (hg : g ∉ S) {v : Value} (h : w.cell? ⟨g, o, none⟩ = some v) : w'.cell? ⟨g, o, none⟩ = some v :=
  (World.cell?_of_block (a := ⟨g, o, none⟩) (k.block g (World.block_lt_of_cell? _ _ h) hg)).trans h

/-- A layout's box. -/
structure Lx (a T G n : Nat) (w : World) : Prop where
  c0 : w.cell? ⟨a, 0, none⟩ = some (.int .i64 T)
  c1 : w.cell? ⟨a, 1, none⟩ = some (.int .i64 G)
  c2 : w.cell? ⟨a, 2, none⟩ = some (.int .i64 n)
theorem Lx.keep {S : List Nat} {a T G n : Nat} {w w' : World} (h : Lx a T G n w) (k : Kp S w w') (ha : a ∉ S) : Lx a T G n w' := ⟨kp_cell k ha h.c0, kp_cell k ha h.c1, kp_cell k ha h.c2⟩
theorem Lx.new (w : World) (T G n : Nat) : Lx w.heap.size T G n (w.alloc (.cells #[.int .i64 T, .int .i64 G, .int .i64 n] 27)) := ⟨by simp, by simp, by simp⟩

theorem na_write (k : Nat) (a : Addr) (w : World) : (nilAhead (k + 1) 25 (.pointer (some a)) "Write").run Try.prog w = .ok (some false) w := by kernel_rfl
theorem na_read (k : Nat) (a : Addr) (w : World) : (nilAhead (k + 1) 25 (.pointer (some a)) "Read").run Try.prog w = .ok (some false) w := by kernel_rfl

section
variable {T G n p r t : Nat} {H : List Int} {w w' : World}
set_option maxRecDepth 100000 in
set_option maxHeartbeats 2000000 in
theorem g_begin (h : Hw T G n p r H t w) (ht : t ≤ 900000) (M' : Nat) (hM : 2 ^ min n 64 - 1 = M') :
    Calls Try.prog 7 #[.iface 25 (.pointer (some ⟨p, 0, none⟩)), .agg #[.int .i64 T, .int .i64 G, .int .i64 n]] w fun e w' => e = .returned (.tuple #[]) ∧ Hw T G n p r (H.set 0 (M' : Int)) (t + 1) w' ∧ Kp [p, r] w w' := by
  have hB := Lib.hid (fun w => Ly.blocks_is T G n w)
  have hA := Lib.hid (fun w => Bm.all_is n M' w (by simpa using hM))
  have hlt : M' < 18446744073709551616 := by
    have h1 : 2 ^ min n 64 ≤ 2 ^ 64 := Nat.pow_le_pow_right (by omega) (Nat.min_le_right _ _)
    have h2 := Nat.two_pow_pos (min n 64)
    omega
  have HL := Lib.hid hlt
  have HZ : Hid (0 < H.length) := Lib.hid (by have := h.len; omega)
  have HL2 : Hid ((M' : Int) < 18446744073709551616) := Lib.hid (by omega)
  have K0 := Lib.hid ((Kp.refl [] w).alloc (.cells #[.int .i64 T, .int .i64 G, .int .i64 n] 27))
  have HG := Lib.hid h
  clear hM hlt
  have hna := na_write
  go_enter Try.func7, Try.ntmps7
  go_wp2
  go_region_with (first
    | (go_at_call 29; refine (hB.out _).mono ?_; rintro e w1 ⟨rfl, hk⟩; have K1 : Hid (Kp [] w w1) := Lib.hid (by refine K0.out.trans (Kp.trans ?_ hk); exact ⟨rfl, rfl, rfl, Nat.le_refl _, fun _ _ _ => rfl⟩); clear hk)
    | (go_at_call 30; refine (hA.out _).mono ?_; rintro e w2 ⟨rfl, rfl⟩)
    | (go_at_call 48
       refine (wr_word (HG.out.on (K1.out.trans ?_)) ht 0 HZ.out 0 M' rfl (Int.natCast_nonneg _) HL2.out).mono ?_
       · exact ⟨rfl, rfl, rfl, Nat.le_refl _, fun _ _ _ => rfl⟩
       rintro e w3 ⟨rfl, hg, hk⟩
       have G3 := Lib.hid hg
       have K3 : Hid (Kp [p, r] w w3) := Lib.hid (by refine (K1.out.mono (by simp)).trans (Kp.trans ?_ hk); exact ⟨rfl, rfl, rfl, Nat.le_refl _, fun _ _ _ => rfl⟩)
       clear hg hk))
  all_goals
    go_wp2
    go_end0
    exact ⟨rfl, G3.out, K3.out⟩

/-- The parts of an entry's word. -/
def ek (x : Int) : Int := if Tb.takeE x then x % 8 else 0
def ec (x : Int) : Int := if Tb.takeE x then x / 8 % 4 else 0
def er (x : Int) : Int := if Tb.takeE x then x / 32 % 4 else 0
def eo (x : Int) : Int := if Tb.takeE x then x / 128 % 64 else 0
def ee (x : Int) : Int := if Tb.takeE x then 0 else 3
theorem take_part (x : Int) (w : World) (h0 : 0 ≤ x) (h1 : x < 18446744073709551616) :
    Calls Try.prog 45 #[.int .u64 x] w fun e w' => e = .returned (.tuple #[.agg #[.int .u8 (ek x), .int .u8 (ec x), .int .u8 (er x), .int .u8 (eo x)], .int .i64 (ee x)]) ∧ Kp [] w w' := by
  unfold ek ec er eo ee
  cases h : Tb.takeE x
  · exact Tb.take_none x w h0 h1 h
  · exact Tb.take_some x w h0 h
theorem entry_at (k : Nat) (w : World) (hT : T ≤ 64) (hG : G ≤ 8) (hn : n ≤ 64) (hk : k < n) : Calls Try.prog 38 #[.agg #[.int .i64 T, .int .i64 G, .int .i64 n], .int .i64 k] w fun e w' => e = .returned (.int .i64 ((3 + T + G + k : Nat) : Int)) ∧ Kp [] w w' :=
  Ly.entry_is T G n k ((3 + T + G + k : Nat) : Int) w (by rw [Ly.rowP_in (by omega) (by omega)]; omega) (by omega) (by omega) (by omega) (by omega) (by omega) (by omega)

end
end Go.Proofs.Ytnbaiinhalplcaa

namespace Go.Proofs.Ytnbaiinhalplcaa
set_option linter.unusedVariables false
set_option linter.unusedSimpArgs false
open Go.RowKit

section
variable {T G n p r t : Nat} {H : List Int} {w w' : World}
/-- What Find and Take answer. -/
theorem find_claims {M M' : Nat} {r' a : Int} {q : Bool} (hc : Claims M r' a q M') (hM : M < 18446744073709551616) (h1 : 1 ≤ r') (h3 : r' ≤ 3) (w : World) :
    Calls Try.prog 35 #[.int .u64 M, .int .i64 r'] w fun e w' => e = .returned (.tuple #[.int .i64 a, .bool q]) ∧ Kp [] w w' := by
  obtain ⟨m, rfl⟩ := Int.eq_ofNat_of_zero_le (show 0 ≤ r' by omega)
  refine Bm.find_walk M m w hM (by omega) (by omega) a q ?_ ?_
  · rintro k ⟨hk1, hk2, hk3⟩
    have hkr : Bm.isR M k m true = true := by simp only [Bm.isR, Bool.and_eq_true, decide_eq_true_eq]; exact ⟨by omega, by simpa using hk2⟩
    rcases hc with ⟨k', _, hf, ha, hq, _⟩ | ⟨hno, _⟩
    · have hk' := hf.1
      simp only [Bm.isR, Bool.and_eq_true, decide_eq_true_eq, Int.toNat_natCast] at hk'
      rcases Nat.lt_trichotomy k k' with hl | hl | hl
      · rw [hf.2 k hl] at hkr; simp at hkr
      · subst hl; exact ⟨ha, hq⟩
      · have := hk3 k' hl
        rw [hk'.2] at this; simp at this
    · rw [hno k] at hkr; simp at hkr
  · intro hno
    rcases hc with ⟨k', _, hf, ha, hq, _⟩ | ⟨_, ha, hq, _⟩
    · have hk' := hf.1
      simp only [Bm.isR, Bool.and_eq_true, decide_eq_true_eq, Int.toNat_natCast] at hk'
      have := hno k' (by omega)
      rw [hk'.2] at this; simp at this
    · exact ⟨ha, hq⟩
theorem take_claims {M M' : Nat} {r' a : Int} {q : Bool} (hc : Claims M r' a q M') (hM : M < 18446744073709551616) (w : World) :
    Calls Try.prog 36 #[.int .u64 M, .int .i64 a, .int .i64 r'] w fun e w' => e = .returned (.tuple #[.int .u64 M', .bool q]) ∧ w = w' := by
  rcases hc with ⟨k', _, hf, ha, hq, hM'⟩ | ⟨hno, ha, hq, hM'⟩
  · rw [ha, hq]
    exact Bm.take_is M k' r' M' true w hM hf.1 (by rw [hM']; simp)
  · rw [ha, hq]
    exact Bm.take_is M 0 r' M' false w hM (hno 0) (by rw [hM']; simp)

/-- What a claim's closure does. -/
theorem cl_claim {M M' : Nat} {r' a : Int} {q : Bool} (hc : Claims M r' a q M') (hM : M < 18446744073709551616) (h1 : 1 ≤ r') (h3 : r' ≤ 3) (b1 b2 b3 : Nat) (x : Int) (y : Bool) (w : World)
    (c1 : w.heap[b1]? = some (.cells #[.int .i64 r'] 3 (0, 0))) (c2 : w.heap[b2]? = some (.cells #[.int .i64 x] 3 (0, 0))) (c3 : w.heap[b3]? = some (.cells #[.bool y] 4 (0, 0))) (n12 : b1 ≠ b2) (n13 : b1 ≠ b3) (n23 : b2 ≠ b3) :
    Calls Try.prog 34 #[.int .u64 M, .pointer (some ⟨b1, 0, none⟩), .pointer (some ⟨b2, 0, none⟩), .pointer (some ⟨b3, 0, none⟩)] w fun e w' => e = .returned (.int .u64 M') ∧ Kp [b2, b3] w w' ∧ w'.heap[b2]? = some (.cells #[.int .i64 a] 3 (0, 0)) ∧ w'.heap[b3]? = some (.cells #[.bool q] 4 (0, 0)) := by
  have hf := Lib.hid (find_claims hc hM h1 h3)
  have hta := Lib.hid (take_claims hc hM)
  clear hc
  have e1 : w.cell? ⟨b1, 0, none⟩ = some (.int .i64 r') := cell_of_row c1 0
  have C := Lib.hid (And.intro c1 (And.intro c2 c3))
  have NE := Lib.hid (And.intro n12 (And.intro n13 n23))
  clear c1 c2 c3
  go_enter Try.func34, Try.ntmps34
  go_wp2_with fail
  refine (hf.out _).mono ?_
  rintro e w1 ⟨rfl, hk⟩
  have d1 := hk.row (by simp) C.out.1
  have d2 := hk.row (by simp) C.out.2.1
  have d3 := hk.row (by simp) C.out.2.2
  have K1 := Lib.hid hk
  clear hk
  have e2 : w1.cell? ⟨b2, 0, none⟩ = some (.int .i64 x) := cell_of_row d2 0
  have f2 := free_of_row d2 0
  have k2 : Kp [b2, b3] w1 (w1.setCell ⟨b2, 0, none⟩ (.int .i64 a)) := (Kp.refl _ _).setCell (.inl (by simp)) _
  have D2 : (w1.setCell ⟨b2, 0, none⟩ (.int .i64 a)).heap[b2]? = some (.cells #[.int .i64 a] 3 (0, 0)) := by rw [heap_setCell_same _ _ _ _ _ _ d2]; rfl
  have D1 : (w1.setCell ⟨b2, 0, none⟩ (.int .i64 a)).heap[b1]? = some (.cells #[.int .i64 r'] 3 (0, 0)) := by rw [heap_setCell_other _ _ _ _ (by exact n12), d1]
  have D3 : (w1.setCell ⟨b2, 0, none⟩ (.int .i64 a)).heap[b3]? = some (.cells #[.bool y] 4 (0, 0)) := by rw [heap_setCell_other _ _ _ _ (by exact n23.symm), d3]
  have HD := Lib.hid (And.intro D1 (And.intro D2 D3))
  have K2 := Lib.hid ((K1.out.mono (by simp)).trans k2)
  clear d1 d2 d3 D1 D2 D3 k2
  go_upto_region 2 with (fail)
  obtain ⟨w2, hw2⟩ : ∃ w2, w2 = w1.setCell ⟨b2, 0, none⟩ (.int .i64 a) := ⟨_, rfl⟩
  rw [← hw2] at HD K2 ⊢
  clear hw2 e2 f2
  have g1 : w2.cell? ⟨b1, 0, none⟩ = some (.int .i64 r') := cell_of_row HD.out.1 0
  have g2 : w2.cell? ⟨b2, 0, none⟩ = some (.int .i64 a) := cell_of_row HD.out.2.1 0
  have g3 : w2.cell? ⟨b3, 0, none⟩ = some (.bool y) := cell_of_row HD.out.2.2 0
  have f3 := free_of_row HD.out.2.2 0
  go_wp2_with fail
  refine (hta.out _).mono ?_
  rintro e w3 ⟨rfl, rfl⟩
  go_wp2
  go_ret
  refine ⟨rfl, K2.out.trans ((Kp.refl _ _).setCell (.inl (by simp)) _), ?_, ?_⟩
  · rw [heap_setCell_other _ _ _ _ (by exact NE.out.2.2), HD.out.2.1]
  · rw [heap_setCell_same _ _ _ _ _ _ HD.out.2.2]; rfl
theorem results_cell2 {fn : Func} {p u : Tmp} {ty tz : TypeId} (h : fn.results = #[.cell p ty, .cell u tz]) (tmps : Array Value) (P : Program) (w : World) (a b : Addr) (x y : Value) (hp : tmps.getD p undef = .pointer (some a)) (hu : tmps.getD u undef = .pointer (some b)) (hx : (loadVar ty a).run P w = .ok x w) (hy : (loadVar tz b).run P w = .ok y w) :
    (results fn tmps).run P w = .ok (.tuple #[x, y]) w := by
  rw [Array.getD_eq_getD_getElem?] at hp hu
  simp only [results, h]
  simp [Sem.run_bind, Result.andThen, hp, hu, asAddr, hx, hy]
theorem bodyPost_cell2 {P : Program} {fn : Func} {R : Ending → World → Prop} {a : Act} {w : World} {p u : Tmp} {ty tz : TypeId} (h : fn.results = #[.cell p ty, .cell u tz]) (b c : Addr) (x y : Value) (hp : a.tmps.getD p undef = .pointer (some b)) (hu : a.tmps.getD u undef = .pointer (some c)) (hx : (loadVar ty b).run P w = .ok x w) (hy : (loadVar tz c).run P w = .ok y w) (hdef : a.defers = []) (hR : R (.returned (.tuple #[x, y])) w) : bodyPost P fn R .ret a w :=
  bodyPost_ret (results_cell2 h a.tmps P w b c x y hp hu hx hy) hdef hR
theorem load_int {w : World} {b : Nat} {x : Int} (h : w.heap[b]? = some (.cells #[.int .i64 x] 3 (0, 0))) : (loadVar 3 ⟨b, 0, none⟩).run Try.prog w = .ok (.int .i64 x) w := by
  have e : w.cell? ⟨b, 0, none⟩ = some (.int .i64 x) := cell_of_row h 0
  simp [go_sem, e]
theorem load_bool {w : World} {b : Nat} {x : Bool} (h : w.heap[b]? = some (.cells #[.bool x] 4 (0, 0))) : (loadVar 4 ⟨b, 0, none⟩).run Try.prog w = .ok (.bool x) w := by
  have e : w.cell? ⟨b, 0, none⟩ = some (.bool x) := cell_of_row h 0
  simp [go_sem, e]

/-- The boxes of Claim: the layout's, the run's, the answers'. -/
def cw (w : World) (T G n : Nat) (r' : Int) : World := (((w.alloc (.cells #[.int .i64 T, .int .i64 G, .int .i64 n] 27)).alloc (.cells #[.int .i64 r'] 3)).alloc (.cells #[.int .i64 0] 3)).alloc (.cells #[.bool false] 4)
theorem cw_kp (w : World) (T G n : Nat) (r' : Int) : Kp [] w (cw w T G n r') := ((((Kp.refl [] w).alloc _).alloc _).alloc _).alloc _
theorem cw_rows (w : World) (T G n : Nat) (r' : Int) : (cw w T G n r').heap[w.heap.size + 1]? = some (.cells #[.int .i64 r'] 3 (0, 0)) ∧ (cw w T G n r').heap[w.heap.size + 2]? = some (.cells #[.int .i64 0] 3 (0, 0)) ∧ (cw w T G n r').heap[w.heap.size + 3]? = some (.cells #[.bool false] 4 (0, 0)) := by
  have z1 := World.size_alloc w (.cells #[.int .i64 T, .int .i64 G, .int .i64 n] 27)
  have z2 := World.size_alloc (w.alloc (.cells #[.int .i64 T, .int .i64 G, .int .i64 n] 27)) (.cells #[.int .i64 r'] 3)
  have z3 := World.size_alloc ((w.alloc (.cells #[.int .i64 T, .int .i64 G, .int .i64 n] 27)).alloc (.cells #[.int .i64 r'] 3)) (.cells #[.int .i64 0] 3)
  refine ⟨?_, ?_, ?_⟩
  · exact (((Kp.refl [] _).alloc _).alloc _).row (by simp) (by rw [← z1]; exact heap_alloc_new _ _)
  · exact ((Kp.refl [] _).alloc _).row (by simp) (by rw [show w.heap.size + 2 = w.heap.size + 1 + 1 from rfl, ← z1, ← z2]; exact heap_alloc_new _ _)
  · rw [show w.heap.size + 3 = w.heap.size + 1 + 1 + 1 from rfl, ← z1, ← z2, ← z3]; exact heap_alloc_new _ _


/-- What giving a run in the map does. -/
theorem cl_back {M b r' : Nat} (hM : M < 18446744073709551616) (b1 b2 : Nat) (w : World) (c1 : w.cell? ⟨b1, 0, none⟩ = some (.int .i64 b)) (c2 : w.cell? ⟨b2, 0, none⟩ = some (.int .i64 r')) :
    Calls Try.prog 39 #[.int .u64 M, .pointer (some ⟨b1, 0, none⟩), .pointer (some ⟨b2, 0, none⟩)] w fun e w' => e = .returned (.int .u64 (giveM M b r')) ∧ Kp [] w w' ∧ True := by
  have hg := Lib.hid (fun w => Bm.give_is M b r' (giveM M b r') _ w hM rfl (by simp [giveM]))
  generalize Bm.isR M b r' false = q at hg
  generalize giveM M b r' = M' at hg ⊢
  go_enter Try.func39, Try.ntmps39
  go_wp2_with fail
  refine (hg.out _).mono ?_
  rintro e w1 ⟨rfl, rfl⟩
  go_wp2
  go_ret
  exact ⟨rfl, Kp.refl _ _, trivial⟩

end
end Go.Proofs.Ytnbaiinhalplcaa

namespace Go.Proofs.Ytnbaiinhalplcaa
open List renaming getElem?_toArray → gqA, getElem?_cons_zero → gqZ
set_option linter.unusedVariables false
set_option linter.unusedSimpArgs false
set_option maxRecDepth 100000
open Go.RowKit
open Go.Conc
open Go.ConcN (upd_ne upd_same)

def T20 (x : Nat → Value) : Array Value := #[x 0, x 1, x 2, x 3, x 4, x 5, x 6, x 7, x 8, x 9, x 10, x 11, x 12, x 13, x 14, x 15, x 16, x 17, x 18, x 19]
theorem T20_shape : ShapeN 20 T20 := fun _ => by kernel_rfl

/-- What a claim answers, and the word behind it. -/
noncomputable def atI (r v : Int) : Int := Classical.choose (claims_any v.toNat r)
theorem claims_at (r v : Int) : ∃ ok M', Claims v.toNat r (atI r v) ok M' := Classical.choose_spec (claims_any v.toNat r)
noncomputable def okI (r v : Int) : Bool := Classical.choose (claims_at r v)
theorem claims_ok (r v : Int) : ∃ M', Claims v.toNat r (atI r v) (okI r v) M' := Classical.choose_spec (claims_at r v)
noncomputable def mapN (r v : Int) : Nat := Classical.choose (claims_ok r v)
theorem claims_is (r v : Int) : Claims v.toNat r (atI r v) (okI r v) (mapN r v) := Classical.choose_spec (claims_ok r v)
theorem claims_zero {r at' : Int} {ok : Bool} {M' : Nat} (hr : 1 ≤ r) (h : Claims 0 r at' ok M') : at' = 0 ∧ ok = false := by
  rcases h with ⟨k, _, hf, _⟩ | ⟨_, h1, h2, _⟩
  · exfalso
    have h1 := hf.1
    simp only [Bm.isR, Bool.and_eq_true, decide_eq_true_eq] at h1
    have h2 := Bm.allN_iff.1 h1.2 k (Nat.le_refl _) (by have := h1.1; omega)
    simp at h2
  · exact ⟨h1, h2⟩

def clC0 (f : Func) : Code := codeL (bodyOf f)
def clC1 (f : Func) : Code := codeL (codeR (bodyOf f))
def clC4 (f : Func) : Code := codeL (codeR (codeR (codeR (bodyOf f))))

section
variable {x : Nat → Value} {wt : World} {Q : Exit → Act → World → Prop} {TT GG nn m b5 b6 b7 : Nat} {r' z : Int} {y : Bool}
theorem cl_p0 (hx0 : x 0 = .iface 107 (.pointer (some ⟨m, 0, none⟩))) (hx1 : x 1 = .agg #[.int .i64 TT, .int .i64 GG, .int .i64 nn]) (hx2 : x 2 = .int .i64 r')
    (hQ : ∀ a' w', FrN 20 [(0, .iface 107 (.pointer (some ⟨m, 0, none⟩))), (5, .pointer (some ⟨wt.heap.size + 1, 0, none⟩)), (6, .pointer (some ⟨wt.heap.size + 2, 0, none⟩)), (7, .pointer (some ⟨wt.heap.size + 3, 0, none⟩))] a' → w' = cw wt TT GG nn r' → Q .normal a' w') : (clC0 Try.f10).wp Try.prog Q ⟨T20 x, []⟩ wt := by
  have HQ := Lib.hid hQ
  clear hQ
  simp only [clC0, bodyOf, Try.f10, codeL, codeR, Option.getD_some, T20]
  simp only [hx0, hx1, hx2]
  go_wp2
  exact HQ.out _ _ ⟨rfl, rfl, ⟨rfl, rfl, rfl, rfl, trivial⟩⟩ rfl
theorem cl_p1 (h1 : 1 ≤ r') (h3 : r' ≤ 3) (hx0 : x 0 = .iface 107 (.pointer (some ⟨m, 0, none⟩))) (hx5 : x 5 = .pointer (some ⟨b5, 0, none⟩)) (hx6 : x 6 = .pointer (some ⟨b6, 0, none⟩)) (hx7 : x 7 = .pointer (some ⟨b7, 0, none⟩)) (c5 : wt.cell? ⟨b5, 0, none⟩ = some (.int .i64 r'))
    (hQ : ∀ a', FrN 20 [(0, .iface 107 (.pointer (some ⟨m, 0, none⟩))), (5, .pointer (some ⟨b5, 0, none⟩)), (6, .pointer (some ⟨b6, 0, none⟩)), (7, .pointer (some ⟨b7, 0, none⟩))] a' → Q .normal a' wt) : (clC1 Try.f10).wp Try.prog Q ⟨T20 x, []⟩ wt := by
  have hm := fun w => g_mayRun r' true w (by simp; omega)
  have HQ := Lib.hid hQ
  clear hQ
  simp only [clC1, bodyOf, Try.f10, codeL, codeR, Option.getD_some, T20]
  simp only [hx0, hx5, hx6, hx7]
  go_wp2_with fail
  refine (hm _).mono ?_
  rintro e w1 ⟨rfl, rfl⟩
  go_wp2
  exact HQ.out _ ⟨rfl, rfl, ⟨rfl, rfl, rfl, rfl, trivial⟩⟩
theorem cl_p4 (hx6 : x 6 = .pointer (some ⟨b6, 0, none⟩)) (hx7 : x 7 = .pointer (some ⟨b7, 0, none⟩)) (n67 : b6 ≠ b7) (r6 : wt.heap[b6]? = some (.cells #[.int .i64 z] 3 (0, 0))) (r7 : wt.heap[b7]? = some (.cells #[.bool y] 4 (0, 0)))
    (hQ : ∀ a' w', FrN 20 [(6, .pointer (some ⟨b6, 0, none⟩)), (7, .pointer (some ⟨b7, 0, none⟩))] a' → w'.heap[b6]? = some (.cells #[.int .i64 z] 3 (0, 0)) → w'.heap[b7]? = some (.cells #[.bool y] 4 (0, 0)) → Kp [b6, b7] wt w' → Q .normal a' w') : (clC4 Try.f10).wp Try.prog Q ⟨T20 x, []⟩ wt := by
  have HQ := Lib.hid hQ
  have c6 := cell_of_row r6 0
  have c7 := cell_of_row r7 0
  have f6 := free_of_row r6 0
  have f7 := free_of_row r7 0
  simp only [gqA, gqZ] at c6 c7
  have R := Lib.hid (And.intro r6 r7)
  have NE := Lib.hid n67
  clear hQ r6 r7 
  simp only [clC4, bodyOf, Try.f10, codeL, codeR, Option.getD_some, T20]
  simp only [hx6, hx7]
  go_region
  all_goals
    go_wp2
    refine HQ.out _ _ ⟨rfl, rfl, ⟨rfl, rfl, trivial⟩⟩ ?_ ?_ ?_
    · first
        | exact (show Kp [b7] (wt.setCell ⟨b6, 0, none⟩ (.int .i64 z)) _ from (Kp.refl _ _).setCell (.inl (by simp)) _).row (by simpa using NE.out) (by rw [heap_setCell_same _ _ _ _ _ _ R.out.1]; rfl)
        | exact (heap_setCell_same _ _ _ _ _ _ ((show Kp [b7] wt (wt.setCell ⟨b7, 0, none⟩ (.bool y)) from (Kp.refl _ _).setCell (.inl (by simp)) _).row (by simpa using NE.out) R.out.1)).trans rfl
    · first
        | exact (heap_setCell_same _ _ _ _ _ _ ((show Kp [b6] wt (wt.setCell ⟨b6, 0, none⟩ (.int .i64 z)) from (Kp.refl _ _).setCell (.inl (by simp)) _).row (by simpa using Ne.symm NE.out) R.out.2)).trans rfl
        | exact (show Kp [b6] (wt.setCell ⟨b7, 0, none⟩ (.bool y)) _ from (Kp.refl _ _).setCell (.inl (by simp)) _).row (by simpa using Ne.symm NE.out) (by rw [heap_setCell_same _ _ _ _ _ _ R.out.2]; rfl)
    · first
        | exact (((Kp.refl [b6, b7] _).setCell (p := ⟨b6, 0, none⟩) (.inl (by simp)) _).setCell (p := ⟨b7, 0, none⟩) (.inl (by simp)) _).drew
        | exact (((Kp.refl [b6, b7] _).setCell (p := ⟨b7, 0, none⟩) (.inl (by simp)) _).setCell (p := ⟨b6, 0, none⟩) (.inl (by simp)) _).drew
end
end Go.Proofs.Ytnbaiinhalplcaa

namespace Go.Proofs.Ytnbaiinhalplcaa
open List renaming getElem_toArray → gtA, getElem_cons_zero → gtZ, getElem_cons_succ → gtS, setIfInBounds_toArray → siA, set_cons_succ → scS, set_cons_zero → scZ, getElem?_toArray → gqA, getElem?_cons_zero → gqZ, getElem?_cons_succ → gqS
set_option linter.unusedVariables false
set_option linter.unusedSimpArgs false
set_option maxRecDepth 100000
open Go.RowKit
open Go.Conc
open Go.ConcN (upd_ne upd_same)

def clR1 (f : Func) : Code := codeR (bodyOf f)
def clR2 (f : Func) : Code := codeR (codeR (bodyOf f))
def clC3 (f : Func) : Code := codeL (codeR (codeR (bodyOf f)))
def clR4 (f : Func) : Code := codeR (codeR (codeR (bodyOf f)))
section
variable {G : Type} {Post : Value → World → Prop} {Sh : (Nat → Col) → World → G → Prop} {SB : Nat → Prop} {pA rA : Nat} {a : Ag} {mv : Value} {home : Goroutine → Prop} {n : Nat} {T : Tree G} {runs ov : Bool}
variable {pl pl' : Nat → Option Place} {F F' F1 : Nat → Option (Nat × Nat)} {col col' col1 : Nat → Col} {w w' w1 : World} {g : G} {S : Nat → Prop} {c₀ : Frame} {cs : List Frame}

/-- What Claim holds. -/
def ClA (A : World → Prop) (b5 b6 b7 : Nat) (r' z : Int) (y : Bool) (w : World) : Prop := A w ∧ w.heap[b5]? = some (.cells #[.int .i64 r'] 3 (0, 0)) ∧ w.heap[b6]? = some (.cells #[.int .i64 z] 3 (0, 0)) ∧ w.heap[b7]? = some (.cells #[.bool y] 4 (0, 0))
def clOwn (own : Nat → Prop) (b5 b6 b7 b : Nat) : Prop := own b ∨ b = b5 ∨ b = b6 ∨ b = b7
theorem cl67 {own : Nat → Prop} {b5 b6 b7 b : Nat} (h : b = b6 ∨ b = b7) : clOwn own b5 b6 b7 b := h.elim (fun e => .inr (.inr (.inl e))) fun e => .inr (.inr (.inr e))
theorem priv_cl {own : Nat → Prop} {A : World → Prop} (hP : Priv own A) (b5 b6 b7 : Nat) (r' z : Int) (y : Bool) : Priv (clOwn own b5 b6 b7) (ClA A b5 b6 b7 r' z y) := hP.and ((Priv.row _ _ _ _).and ((Priv.row _ _ _ _).and (Priv.row _ _ _ _)))

set_option maxHeartbeats 4000000 in
/-- CLAIM, over an agent's memory. -/
theorem claim_in (hSh : Shar Sh) (hmv : mv = memV pA) {TT GG nn : Nat} {r' : Int} (h1 : 1 ≤ r') (h3 : r' ≤ 3) {c : Int → G → G} {nx : Int → G → Tree G} {hl : G → G} {pre : G → Prop} {own : Nat → Prop} {A : World → Prop}
    (hA : Acts SB pA rA a mv home true false pl F col w) (hown : ∀ b, own b → col b = .ag a.j) (hP : Priv own A) (hAw : A w) (hs : Sh col w g)
    (hres : ∀ v, 0 ≤ v → v < 18446744073709551616 → ∀ home n pl' F' col' w' g, Acts SB pA rA a mv home true false pl' F' col' w' → (∀ b, own b → col' b = .ag a.j) → A w' → Sh col' w' g → pre g → Kont Post Sh SB pA rA a mv home n (nx v g) pl' F' col' w' (c v g) → Win Try.prog Post pl' n a.j (gor (c₀.finish (.tuple #[.int .i64 (atI r' v), .bool (okI r' v)])) cs) w')
    (hstop : ∀ home n pl' F' col' w' g, Ends SB pA rA a mv home pl' F' col' w' → (∀ b, own b → col' b = .ag a.j) → A w' → Sh col' w' g → pre g → Kont Post Sh SB pA rA a mv home n .ret pl' F' col' w' (hl g) → Win Try.prog Post pl' n a.j (gor (c₀.raise [haltE]) cs) w')
    (K : Kont Post Sh SB pA rA a mv home n (.node 0 (fun v => (mapN r' v : Nat)) c nx hl pre) pl F col w g) :
    Win Try.prog Post pl n a.j (gor (Frame.enter Try.prog 10 #[.iface 107 (.pointer (some ⟨a.m, 0, none⟩)), .agg #[.int .i64 TT, .int .i64 GG, .int .i64 nn], .int .i64 r'] .normal) (c₀ :: cs)) w := by
  have hb : (Frame.enter Try.prog 10 #[.iface 107 (.pointer (some ⟨a.m, 0, none⟩)), .agg #[.int .i64 TT, .int .i64 GG, .int .i64 nn], .int .i64 r'] CallKind.normal).kind = .normal := rfl
  have e0 : bodyOf Try.f10 = .seq (clC0 Try.f10) (clR1 Try.f10) := by kernel_rfl
  have e1 : clR1 Try.f10 = .seq (clC1 Try.f10) (clR2 Try.f10) := by kernel_rfl
  have e2 : clR2 Try.f10 = .seq (clC3 Try.f10) (clR4 Try.f10) := by kernel_rfl
  have e4 : clR4 Try.f10 = .seq (clC4 Try.f10) .ret := by kernel_rfl
  rw [enter_at (c := bodyOf Try.f10) Try.func10 rfl]
  refine win_slotsN T20_shape (K := [(0, .iface 107 (.pointer (some ⟨a.m, 0, none⟩))), (1, .agg #[.int .i64 TT, .int .i64 GG, .int .i64 nn]), (2, .int .i64 r')]) (by kernel_rfl) ⟨by kernel_rfl, by kernel_rfl, by kernel_rfl, trivial⟩ fun x hx => ?_
  rw [e0]
  refine Win.seq ?_
  refine hA.pieceN T20_shape (own := own) (S := fun _ => False) hP hAw (fun b hb => .inl (hown b hb)) (fun b hb => hb.elim) (ι := Unit) (own' := fun _ => clOwn own (w.heap.size + 1) (w.heap.size + 2) (w.heap.size + 3)) (A' := fun _ => ClA A (w.heap.size + 1) (w.heap.size + 2) (w.heap.size + 3) r' 0 false) (fun _ => priv_cl hP _ _ _ _ _ _)
    (K' := fun _ => [(0, .iface 107 (.pointer (some ⟨a.m, 0, none⟩))), (5, .pointer (some ⟨w.heap.size + 1, 0, none⟩)), (6, .pointer (some ⟨w.heap.size + 2, 0, none⟩)), (7, .pointer (some ⟨w.heap.size + 3, 0, none⟩))]) (fun _ _ => False) (stok_at rfl rfl (by simp) (by kernel_rfl)) (fun wt Q hAt hz hcell hQ => cl_p0 hx.1 hx.2.1 hx.2.2.1 fun a' w' hf hw => ?_) fun x1 _ w1 _ hx1 hB1 k1 hA1 hM1 => ?_
  · subst hw
    have hk := cw_kp wt TT GG nn r'
    have hr := cw_rows wt TT GG nn r'
    have hz' : (cw wt TT GG nn r').heap.size = wt.heap.size + 4 := by simp [cw]
    rw [hz] at hf hr
    refine hQ a' () _ (fun y hy => ?_) hf ⟨hP.st _ _ hAt fun b hb => hk.block b (hP.lt _ _ hAt hb) (by simp), hr⟩ ((ks_of_kp hk).mono fun _ _ z => by simp at z)
    rcases hy with hy | hy | hy | hy
    · exact .inl hy
    all_goals (right; omega)
  have hz1 : w.heap.size + 4 ≤ w1.heap.size := by have := lt_of_block hB1.2.2.2; omega
  have K1 := K.moves hM1
  have hs1 := hSh.plainS (j := a.j) (sh := fun _ => False) hA.lay hs k1 (fun b hb => hb.elim)
  have hown1 : ∀ b, clOwn own (w.heap.size + 1) (w.heap.size + 2) (w.heap.size + 3) b → grownS a.j (fun _ => False) col w w1 b = .ag a.j := fun b hb => by
    rcases hb with hb | hb | hb | hb
    · exact (grownS_keep hA.lay (by rw [hown b hb]; simp)).trans (hown b hb)
    all_goals exact grownS_new (by omega) (by omega) (fun z => z)
  clear hAw hs K k1 hM1
  generalize grownS a.j (fun _ => False) col w w1 = col1 at hA1 K1 hs1 hown1
  have n56 : w.heap.size + 1 ≠ w.heap.size + 2 := by omega
  have n57 : w.heap.size + 1 ≠ w.heap.size + 3 := by omega
  have n67 : w.heap.size + 2 ≠ w.heap.size + 3 := by omega
  have hold : ∀ b, own b → b ≠ w.heap.size + 1 ∧ b ≠ w.heap.size + 2 ∧ b ≠ w.heap.size + 3 := fun b hb => by
    have := hA.lay.above b
    have h2 := hown b hb
    refine ⟨fun e => ?_, fun e => ?_, fun e => ?_⟩ <;> (rw [this (by omega)] at h2; cases h2)
  generalize w.heap.size + 1 = b5 at *
  generalize w.heap.size + 2 = b6 at *
  generalize w.heap.size + 3 = b7 at *
  clear hA
  rw [e1]
  refine Win.seq ?_
  refine hA1.pieceN T20_shape (own := clOwn own b5 b6 b7) (S := fun _ => False) (priv_cl hP _ _ _ _ _ _) hB1 (fun b hb => .inl (hown1 b hb)) (fun b hb => hb.elim) (ι := Unit) (own' := fun _ => clOwn own b5 b6 b7) (A' := fun _ => ClA A b5 b6 b7 r' 0 false) (fun _ => priv_cl hP _ _ _ _ _ _)
    (K' := fun _ => [(0, .iface 107 (.pointer (some ⟨a.m, 0, none⟩))), (5, .pointer (some ⟨b5, 0, none⟩)), (6, .pointer (some ⟨b6, 0, none⟩)), (7, .pointer (some ⟨b7, 0, none⟩))]) (fun _ _ => False) (stok_at rfl rfl (by simp) (by kernel_rfl)) (fun wt Q hAt hz hcell hQ => cl_p1 h1 h3 hx1.1 hx1.2.1 hx1.2.2.1 hx1.2.2.2.1 (by exact cell_of_row hAt.2.1 0) fun a' hf => hQ a' () _ (fun y hy => .inl hy) hf hAt (Ks.refl _ _)) fun x2 _ w2 _ hx2 hB2 k2 hA2 hM2 => ?_
  have K2 := K1.moves hM2
  have hs2 := hSh.plainS (j := a.j) (sh := fun _ => False) hA1.lay hs1 k2 (fun b hb => hb.elim)
  have hown2 : ∀ b, clOwn own b5 b6 b7 b → grownS a.j (fun _ => False) col1 w1 w2 b = .ag a.j := fun b hb => (grownS_keep hA1.lay (by rw [hown1 b hb]; simp)).trans (hown1 b hb)
  generalize grownS a.j (fun _ => False) col1 w1 w2 = col2 at hA2 K2 hs2 hown2
  clear hA1 K1 hs1 hown1 hB1 k2 hM2
  rw [e2]
  obtain ⟨R4, hR4⟩ : ∃ R, R = clR4 Try.f10 := ⟨_, rfl⟩
  rw [← hR4] at e4 ⊢
  refine Win.seq ?_
  simp only [clC3, bodyOf, Try.f10, codeL, codeR, Option.getD_some, T20] at hb ⊢
  obtain ⟨hy0, hy5, hy6, hy7, _⟩ := hx2
  simp only at hy0 hy5 hy6 hy7
  simp only [hy0, hy5, hy6, hy7]
  refine Win.region ?_
  simp only [List.size_toArray, List.length_cons, List.length_nil, Nat.reduceAdd, List.range, List.range.loop]
  refine Win.pureOp (v := .iface 107 (.pointer (some ⟨a.m, 0, none⟩))) (.inl hb) rfl rfl (fun w => rfl) ?_
  simp only [Act.put, Act.eval, gqA, gqZ, gqS, Option.bind_some, gtA, gtZ, gtS, siA, scS, scZ]
  refine Win.pureOp (v := .func (.func 34) #[] #[.pointer (some ⟨b5, 0, none⟩), .pointer (some ⟨b6, 0, none⟩), .pointer (some ⟨b7, 0, none⟩)]) (.inl hb) rfl rfl (fun w => by rw [Sem.runT_eq]; simp [go_sem, execOp, Act.eval]; try (first | omega | rfl | exact ⟨rfl, rfl⟩ | kernel_rfl)) ?_
  simp only [Act.put, Act.eval, gqA, gqZ, gqS, Option.bind_some, gtA, gtZ, gtS, siA, scS, scZ]
  refine Win.enter (f := 98) (args := #[.pointer (some ⟨a.m, 0, none⟩), .int .i64 0, .func (.func 34) #[] #[.pointer (some ⟨b5, 0, none⟩), .pointer (some ⟨b6, 0, none⟩), .pointer (some ⟨b7, 0, none⟩)]]) (.inl hb) rfl rfl (fun d => ⟨#[], by kernel_rfl, fun e he => by simp at he⟩) ?_
  refine bupdate3 (own := clOwn own b5 b6 b7) (A := ClA A b5 b6 b7 r' 0 false) (DD := [b6, b7]) (A' := fun v => ClA A b5 b6 b7 r' (atI r' v) (okI r' v)) (φ := fun v => (mapN r' v : Nat)) hSh hmv hA2 hown2 (priv_cl hP _ _ _ _ _ _) hB2 hs2 (fun b hb => by
      simp only [List.mem_cons, List.not_mem_nil, or_false] at hb
      rcases hb with rfl | rfl
      · exact .inr (.inr (.inl rfl))
      · exact .inr (.inr (.inr rfl))) (fun v => priv_cl hP _ _ _ _ _ _) (fun u hu => by
      have hc := claims_zero h1 (claims_is r' 0)
      rw [hc.1, hc.2]; exact hu) (fun _ _ => rfl) (fun u v hu h0 hv => ?_) (fun v h0 hv home n pl' F' col' w' g hA' hown' hB' hs' hp' K' => ?_) (fun home n pl' F' col' w' g hE hown' hB' hs' hp' K' => ?_) K2
  · obtain ⟨V, rfl⟩ := Int.eq_ofNat_of_zero_le h0
    have hc := claims_is r' (V : Int)
    rw [Int.toNat_natCast] at hc
    refine (cl_claim hc (by omega) h1 h3 b5 b6 b7 0 false u hu.2.1 hu.2.2.1 hu.2.2.2 n56 n57 n67).mono ?_
    rintro e u' ⟨he, hk, r6, r7⟩
    refine ⟨he, hk, hP.st _ _ hu.1 fun b hb => hk.block b (hP.lt _ _ hu.1 hb) (by simp only [List.mem_cons, List.not_mem_nil, or_false, not_or]; exact ⟨(hold b hb).2.1, (hold b hb).2.2⟩), hk.row (by simp only [List.mem_cons, List.not_mem_nil, or_false, not_or]; exact ⟨n56, n57⟩) hu.2.1, r6, r7⟩
  · rw [Frame.finish_at]
    simp only [Act.put, Act.eval, gqA, gqZ, gqS, Option.bind_some, gtA, gtZ, gtS, siA, scS, scZ]
    refine Win.opsEnd ?_
    rw [e4]
    refine win_slotsN T20_shape (K := [(6, .pointer (some ⟨b6, 0, none⟩)), (7, .pointer (some ⟨b7, 0, none⟩))]) rfl ⟨rfl, rfl, trivial⟩ fun x3 hx3 => ?_
    refine Win.seq ?_
    refine hA'.pieceN T20_shape (own := clOwn own b5 b6 b7) (S := fun b => b = b6 ∨ b = b7) (priv_cl hP _ _ _ _ _ _) hB' (fun b hb => .inl (hown' b hb)) (fun b hb => .inl (hown' b (cl67 hb))) (ι := Unit) (own' := fun _ => clOwn own b5 b6 b7) (A' := fun _ => ClA A b5 b6 b7 r' (atI r' v) (okI r' v)) (fun _ => priv_cl hP _ _ _ _ _ _)
      (K' := fun _ => [(6, .pointer (some ⟨b6, 0, none⟩)), (7, .pointer (some ⟨b7, 0, none⟩))]) (fun _ _ => False) (stok_at rfl rfl (by simp) (by kernel_rfl)) (fun wt Q hAt hz hcell hQ => cl_p4 hx3.1 hx3.2.1 n67 hAt.2.2.1 hAt.2.2.2 fun a' w4 hf r6 r7 hk => hQ a' () _ (fun y hy => .inl hy) hf ⟨hP.st _ _ hAt.1 fun b hb => hk.block b (hP.lt _ _ hAt.1 hb) (by simp only [List.mem_cons, List.not_mem_nil, or_false, not_or]; exact ⟨(hold b hb).2.1, (hold b hb).2.2⟩), hk.row (by simp only [List.mem_cons, List.not_mem_nil, or_false, not_or]; exact ⟨n56, n57⟩) hAt.2.1, r6, r7⟩ ((ks_of_kp hk).mono fun _ _ z => by simpa using z)) fun x4 _ w4 _ hx4 hB4 k4 hA4 hM4 => ?_
    have K4 := Kont.moves hM4 K'
    have hs4 := hSh.plainS (j := a.j) (sh := fun _ => False) hA'.lay hs' k4 (fun b hb => by
      rw [hown' b (cl67 hb)]; simp)
    have hown4 : ∀ b, own b → grownS a.j (fun _ => False) col' w' w4 b = .ag a.j := fun b hb => (grownS_keep hA'.lay (by rw [hown' b (.inl hb)]; simp)).trans (hown' b (.inl hb))
    refine Win.ret ?_
    refine Win.leave (v := .tuple #[.int .i64 (atI r' v), .bool (okI r' v)]) rfl rfl rfl Try.func10 (fun d => ⟨#[⟨.cell ⟨b6, 0, none⟩, false, false⟩, ⟨.cell ⟨b7, 0, none⟩, false, false⟩], ?_, fun e he => ?_⟩) ?_
    · obtain ⟨z6, z7, _⟩ := hx4
      simp only at z6 z7
      have c6 : (World.at w4 d).cell? ⟨b6, 0, none⟩ = some (.int .i64 (atI r' v)) := cell_of_row hB4.2.2.1 0
      have c7 : (World.at w4 d).cell? ⟨b7, 0, none⟩ = some (.bool (okI r' v)) := cell_of_row hB4.2.2.2 0
      generalize World.at w4 d = W at c6 c7 ⊢
      rw [Sem.runT_eq]
      simp [go_sem, results, Try.f10, Frame.at, T20, z6, z7, c6, c7]
    · simp at he
      rcases he with rfl | rfl <;> exact ⟨rfl, fun m z => by cases z⟩
    · exact hres v h0 hv home n pl' F' _ w4 g hA4 hown4 hB4.1 hs4 hp' K4
  · refine Win.unwinds (chain := [haltE]) rfl rfl (by kernel_rfl) ?_
    exact hstop home n pl' F' col' w' g hE (fun b hb => hown' b (.inl hb)) hB'.1 hs' hp' K'
end
end Go.Proofs.Ytnbaiinhalplcaa

namespace Go.Proofs.Ytnbaiinhalplcaa
open List renaming getElem?_toArray → gqA, getElem?_cons_zero → gqZ, getElem?_cons_succ → gqS
set_option linter.unusedVariables false
set_option linter.unusedSimpArgs false
set_option maxRecDepth 100000
open Go.RowKit
open Go.Conc
open Go.ConcN (upd_ne upd_same)

def T39 (x : Nat → Value) : Array Value := #[x 0, x 1, x 2, x 3, x 4, x 5, x 6, x 7, x 8, x 9, x 10, x 11, x 12, x 13, x 14, x 15, x 16, x 17, x 18, x 19, x 20, x 21, x 22, x 23, x 24, x 25, x 26, x 27, x 28, x 29, x 30, x 31, x 32, x 33, x 34, x 35, x 36, x 37, x 38]
theorem T39_shape : ShapeN 39 T39 := fun _ => by kernel_rfl

def blockOf : Code → Code
  | .block _ c => c
  | c => c
def loopOf : Code → Code
  | .loop c => c
  | c => c

def bkC0 (f : Func) : Code := codeL (bodyOf f)
def bkR1 (f : Func) : Code := codeR (bodyOf f)
def bkC1 (f : Func) : Code := codeL (codeL (codeR (bodyOf f)))
def bkR2 (f : Func) : Code := codeR (codeR (bodyOf f))
def bkC2 (f : Func) : Code := codeL (codeL (bkR2 f))
def bkL (f : Func) : Code := codeR (codeL (bkR2 f))
def bkC7 (f : Func) : Code := codeR (bkR2 f)
def bkX (f : Func) : Code := loopOf (blockOf (bkL f))
def bkC3 (f : Func) : Code := codeL (bkX f)
def bkB (f : Func) : Code := blockOf (codeL (codeR (codeR (bkX f))))
def bkC4 (f : Func) : Code := codeL (bkB f)
def bkC5 (f : Func) : Code := codeR (bkB f)
def bkC6 (f : Func) : Code := codeR (codeR (codeR (bkX f)))
theorem bk_e0 : bodyOf Try.f11 = .seq (bkC0 Try.f11) (bkR1 Try.f11) := by kernel_rfl
theorem bk_e1 : bkR1 Try.f11 = .seq (.seq (bkC1 Try.f11) (.cond (.tmp 17) .ret .skip)) (bkR2 Try.f11) := by kernel_rfl
theorem bk_e2 : bkR2 Try.f11 = .seq (.seq (bkC2 Try.f11) (.block 0 (.loop (bkX Try.f11)))) (bkC7 Try.f11) := by kernel_rfl
theorem bk_e3 : bkX Try.f11 = .seq (bkC3 Try.f11) (.seq (.cond (.tmp 20) .skip (.exit 0)) (.seq (.block 1 (.seq (bkC4 Try.f11) (bkC5 Try.f11))) (bkC6 Try.f11))) := by kernel_rfl

section
variable {x : Nat → Value} {wt : World} {Q : Exit → Act → World → Prop} {TT GG nn m b5 b6 b7 i : Nat} {bI rI : Int}
/-- The boxes of Back. -/
def bw3 (w : World) (TT GG nn : Nat) (bI rI : Int) : World := ((w.alloc (.cells #[.int .i64 TT, .int .i64 GG, .int .i64 nn] 27)).alloc (.cells #[.int .i64 bI] 3)).alloc (.cells #[.int .i64 rI] 3)
theorem bw3_kp (w : World) (TT GG nn : Nat) (bI rI : Int) : Kp [] w (bw3 w TT GG nn bI rI) := (((Kp.refl [] w).alloc _).alloc _).alloc _
theorem bw3_rows (w : World) (TT GG nn : Nat) (bI rI : Int) : (bw3 w TT GG nn bI rI).heap[w.heap.size]? = some (.cells #[.int .i64 TT, .int .i64 GG, .int .i64 nn] 27 (0, 0)) ∧ (bw3 w TT GG nn bI rI).heap[w.heap.size + 1]? = some (.cells #[.int .i64 bI] 3 (0, 0)) ∧ (bw3 w TT GG nn bI rI).heap[w.heap.size + 2]? = some (.cells #[.int .i64 rI] 3 (0, 0)) := by
  have z1 := World.size_alloc w (.cells #[.int .i64 TT, .int .i64 GG, .int .i64 nn] 27)
  have z2 := World.size_alloc (w.alloc (.cells #[.int .i64 TT, .int .i64 GG, .int .i64 nn] 27)) (.cells #[.int .i64 bI] 3)
  refine ⟨?_, ?_, ?_⟩
  · exact (((Kp.refl [] _).alloc _).alloc _).row (by simp) (heap_alloc_new _ _)
  · exact ((Kp.refl [] _).alloc _).row (by simp) (by rw [← z1]; exact heap_alloc_new _ _)
  · rw [show w.heap.size + 2 = w.heap.size + 1 + 1 from rfl, ← z1, ← z2]; exact heap_alloc_new _ _
theorem bk_p0 (hx0 : x 0 = .iface 107 (.pointer (some ⟨m, 0, none⟩))) (hx1 : x 1 = .agg #[.int .i64 TT, .int .i64 GG, .int .i64 nn]) (hx2 : x 2 = .int .i64 bI) (hx3 : x 3 = .int .i64 rI)
    (hQ : ∀ a' w', FrN 39 [(0, .iface 107 (.pointer (some ⟨m, 0, none⟩))), (5, .pointer (some ⟨wt.heap.size, 0, none⟩)), (6, .pointer (some ⟨wt.heap.size + 1, 0, none⟩)), (7, .pointer (some ⟨wt.heap.size + 2, 0, none⟩))] a' → w' = bw3 wt TT GG nn bI rI → Q .normal a' w') : (bkC0 Try.f11).wp Try.prog Q ⟨T39 x, []⟩ wt := by
  have HQ := Lib.hid hQ
  clear hQ
  simp only [bkC0, bodyOf, Try.f11, codeL, codeR, Option.getD_some, T39]
  simp only [hx0, hx1, hx2, hx3]
  go_wp2
  exact HQ.out _ _ ⟨rfl, rfl, ⟨rfl, rfl, rfl, rfl, trivial⟩⟩ rfl
theorem bk_p1 (hnn : nn ≤ 64) (hx0 : x 0 = .iface 107 (.pointer (some ⟨m, 0, none⟩))) (hx5 : x 5 = .pointer (some ⟨b5, 0, none⟩)) (hx6 : x 6 = .pointer (some ⟨b6, 0, none⟩)) (hx7 : x 7 = .pointer (some ⟨b7, 0, none⟩)) (r5 : wt.heap[b5]? = some (.cells #[.int .i64 TT, .int .i64 GG, .int .i64 nn] 27 (0, 0))) (r6 : wt.heap[b6]? = some (.cells #[.int .i64 bI] 3 (0, 0))) (r7 : wt.heap[b7]? = some (.cells #[.int .i64 rI] 3 (0, 0)))
    (hQ : ∀ a' w', FrN 39 [(0, .iface 107 (.pointer (some ⟨m, 0, none⟩))), (5, .pointer (some ⟨b5, 0, none⟩)), (6, .pointer (some ⟨b6, 0, none⟩)), (7, .pointer (some ⟨b7, 0, none⟩)), (17, .bool (!runG nn bI rI))] a' → Kp [] wt w' → Q .normal a' w') : (bkC1 Try.f11).wp Try.prog Q ⟨T39 x, []⟩ wt := by
  have hh := fun w => g_has TT GG nn bI rI w hnn
  have HQ := Lib.hid hQ
  have c50 := cell_of_row r5 0
  have c51 := cell_of_row r5 1
  have c52 := cell_of_row r5 2
  have c6 := cell_of_row r6 0
  have c7 := cell_of_row r7 0
  simp only [gqA, gqZ, gqS] at c50 c51 c52 c6 c7
  clear hQ r5 r6 r7
  simp only [bkC1, bkR2, bodyOf, Try.f11, codeL, codeR, Option.getD_some, T39]
  simp only [hx0, hx5, hx6, hx7]
  generalize runG nn bI rI = q at hh HQ
  go_wp2_with fail
  refine (hh _).mono ?_
  rintro e w1 ⟨rfl, hk⟩
  go_wp2
  exact HQ.out _ _ ⟨rfl, rfl, ⟨rfl, rfl, rfl, rfl, by cases q <;> rfl, trivial⟩⟩ hk
theorem bk_p2 (hx0 : x 0 = .iface 107 (.pointer (some ⟨m, 0, none⟩))) (hx5 : x 5 = .pointer (some ⟨b5, 0, none⟩)) (hx6 : x 6 = .pointer (some ⟨b6, 0, none⟩)) (hx7 : x 7 = .pointer (some ⟨b7, 0, none⟩)) (c7 : wt.cell? ⟨b7, 0, none⟩ = some (.int .i64 rI))
    (hQ : ∀ a', FrN 39 [(0, .iface 107 (.pointer (some ⟨m, 0, none⟩))), (5, .pointer (some ⟨b5, 0, none⟩)), (6, .pointer (some ⟨b6, 0, none⟩)), (7, .pointer (some ⟨b7, 0, none⟩)), (18, .int .i64 rI), (19, .int .i64 0)] a' → Q .normal a' wt) : (bkC2 Try.f11).wp Try.prog Q ⟨T39 x, []⟩ wt := by
  have HQ := Lib.hid hQ
  clear hQ
  simp only [bkC2, bkR2, bodyOf, Try.f11, codeL, codeR, Option.getD_some, T39]
  simp only [hx0, hx5, hx6, hx7]
  go_wp2
  exact HQ.out _ ⟨rfl, rfl, ⟨rfl, rfl, rfl, rfl, rfl, rfl, trivial⟩⟩
theorem bk_p3 (hx0 : x 0 = .iface 107 (.pointer (some ⟨m, 0, none⟩))) (hx5 : x 5 = .pointer (some ⟨b5, 0, none⟩)) (hx6 : x 6 = .pointer (some ⟨b6, 0, none⟩)) (hx7 : x 7 = .pointer (some ⟨b7, 0, none⟩)) (hx18 : x 18 = .int .i64 rI) (hx19 : x 19 = .int .i64 i)
    (hQ : ∀ a', FrN 39 [(0, .iface 107 (.pointer (some ⟨m, 0, none⟩))), (5, .pointer (some ⟨b5, 0, none⟩)), (6, .pointer (some ⟨b6, 0, none⟩)), (7, .pointer (some ⟨b7, 0, none⟩)), (18, .int .i64 rI), (19, .int .i64 i), (20, .bool (decide ((i : Int) < rI)))] a' → Q .normal a' wt) : (bkC3 Try.f11).wp Try.prog Q ⟨T39 x, []⟩ wt := by
  have HQ := Lib.hid hQ
  clear hQ
  simp only [bkC3, bkX, bkL, bkR2, bodyOf, Try.f11, codeL, codeR, blockOf, loopOf, Option.getD_some, T39]
  simp only [hx0, hx5, hx6, hx7, hx18, hx19]
  go_wp2
  exact HQ.out _ ⟨rfl, rfl, ⟨rfl, rfl, rfl, rfl, rfl, rfl, rfl, trivial⟩⟩
theorem bk_p4 (hx0 : x 0 = .iface 107 (.pointer (some ⟨m, 0, none⟩))) (hx5 : x 5 = .pointer (some ⟨b5, 0, none⟩)) (hx6 : x 6 = .pointer (some ⟨b6, 0, none⟩)) (hx7 : x 7 = .pointer (some ⟨b7, 0, none⟩)) (hx18 : x 18 = .int .i64 rI) (hx19 : x 19 = .int .i64 i)
    (hQ : ∀ a', FrN 39 [(0, .iface 107 (.pointer (some ⟨m, 0, none⟩))), (5, .pointer (some ⟨b5, 0, none⟩)), (6, .pointer (some ⟨b6, 0, none⟩)), (7, .pointer (some ⟨b7, 0, none⟩)), (8, .int .i64 i), (18, .int .i64 rI), (19, .int .i64 i)] a' → Q .normal a' wt) : (bkC4 Try.f11).wp Try.prog Q ⟨T39 x, []⟩ wt := by
  have HQ := Lib.hid hQ
  clear hQ
  simp only [bkC4, bkB, bkX, bkL, bkR2, bodyOf, Try.f11, codeL, codeR, blockOf, loopOf, Option.getD_some, T39]
  simp only [hx0, hx5, hx6, hx7, hx18, hx19]
  go_wp2
  exact HQ.out _ ⟨rfl, rfl, ⟨rfl, rfl, rfl, rfl, rfl, rfl, rfl, trivial⟩⟩
theorem bk_p6 (hi : i < 64) (hx0 : x 0 = .iface 107 (.pointer (some ⟨m, 0, none⟩))) (hx5 : x 5 = .pointer (some ⟨b5, 0, none⟩)) (hx6 : x 6 = .pointer (some ⟨b6, 0, none⟩)) (hx7 : x 7 = .pointer (some ⟨b7, 0, none⟩)) (hx18 : x 18 = .int .i64 rI) (hx19 : x 19 = .int .i64 i)
    (hQ : ∀ a', FrN 39 [(0, .iface 107 (.pointer (some ⟨m, 0, none⟩))), (5, .pointer (some ⟨b5, 0, none⟩)), (6, .pointer (some ⟨b6, 0, none⟩)), (7, .pointer (some ⟨b7, 0, none⟩)), (18, .int .i64 rI), (19, .int .i64 ((i + 1 : Nat) : Int))] a' → Q .normal a' wt) : (bkC6 Try.f11).wp Try.prog Q ⟨T39 x, []⟩ wt := by
  have HQ := Lib.hid hQ
  have hw := IntWalk.i64_in ((i : Int) + 1) (by omega)
  clear hQ
  simp only [bkC6, bkX, bkL, bkR2, bodyOf, Try.f11, codeL, codeR, blockOf, loopOf, Option.getD_some, T39]
  simp only [hx0, hx5, hx6, hx7, hx18, hx19]
  go_wp2
  exact HQ.out _ ⟨rfl, rfl, ⟨rfl, rfl, rfl, rfl, rfl, rfl, trivial⟩⟩
end
end Go.Proofs.Ytnbaiinhalplcaa
