/- The arena of a layout as the walks hold it: its words, one touch each; what is asked of numbers. The walks of package give over whatever layout: Begin. Conditions: as each theorem states them. -/
import Derived.Test.YtinkpbenmfnnhaaDoorGvP
import Derived.Test.YtinkpbenmfnnhaaDoorArnK
import Derived.Test.YtinkpbenmfnnhaaDoorTbB
import Derived.Test.YtinkpbenmfnnhaaDoorLyB
import Derived.Deep.RegionWith
import Derived.LoopTactic
import Derived.Deep.LoopGhost
import Derived.Test.YtinkpbenmfnnhaaDoorLaw
import Derived.Deep.CutBlock
import Derived.Deep.CutRange
import Derived.Deep.DeepCutAuto
namespace Go.Proofs.YtinkpbenmfnnhaaDoor
set_option linter.unusedVariables false
set_option linter.unusedSimpArgs false
open Go.RowKit

/-- The arena at p, r has the words H, was touched t times; a layout of T threads, G global roots, n blocks fits into it. -/
structure Hw (T G n p r : Nat) (H : List Int) (t : Nat) (w : World) : Prop where
  ar : ∃ l, Ar w p r ⟨H, t, l⟩
  len : 3 + T + G + 33 * n ≤ H.length
  top : H.length ≤ 4096
  ok : ∀ k, 0 ≤ H.getD k 0 ∧ H.getD k 0 < 18446744073709551616
  hT : T ≤ 64
  hG : G ≤ 8
  hn : n ≤ 64

theorem ext_getD' {xs ys : List Int} (hl : xs.length = ys.length) (h : ∀ k, k < xs.length → xs.getD k 0 = ys.getD k 0) : xs = ys := by
  apply List.ext_getElem hl
  intro i h1 h2
  have := h i h1
  simpa [List.getD_eq_getElem?_getD, h1, h2] using this
theorem getD_out (H : List Int) {k : Nat} (h : H.length ≤ k) : H.getD k 0 = 0 := by simp [List.getD_eq_getElem?_getD, h]
theorem getD_set' (H : List Int) (k : Nat) (v : Int) (j : Nat) : (H.set k v).getD j 0 = if j = k ∧ k < H.length then v else H.getD j 0 := by
  by_cases h : j = k
  · subst h
    by_cases hj : j < H.length
    · simp [List.getD_eq_getElem?_getD, hj]
    · simp [List.getD_eq_getElem?_getD, hj, Nat.le_of_not_lt hj]
  · rw [if_neg (fun e => h e.1), List.getD_eq_getElem?_getD, List.getElem?_set_ne (fun e => h e.symm), ← List.getD_eq_getElem?_getD]
theorem set_same' (H : List Int) (k : Nat) : H.set k (H.getD k 0) = H := by
  apply ext_getD' (by simp)
  intro j hj
  rw [getD_set']
  split
  · rename_i e; rw [e.1]
  · rfl

section
variable {T G n p r t : Nat} {H : List Int} {w w' : World}
theorem Hw.keep {S : List Nat} (h : Hw T G n p r H t w) (k : Kp S w w') (hp : p ∉ S) (hr : r ∉ S) : Hw T G n p r H t w' :=
  let ⟨l, a⟩ := h.ar
  ⟨⟨l, a.keep k hp hr⟩, h.len, h.top, h.ok, h.hT, h.hG, h.hn⟩
theorem Hw.on (h : Hw T G n p r H t w) (k : Kp [] w w') : Hw T G n p r H t w' := h.keep k (by simp) (by simp)
theorem Hw.lt (h : Hw T G n p r H t w) : p < w.heap.size ∧ r < w.heap.size :=
  let ⟨_, a⟩ := h.ar
  a.lt
theorem Hw.put (h : Hw T G n p r H t w) {k : Nat} {v : Int} {t' : Nat} (h0 : 0 ≤ v) (h1 : v < 18446744073709551616) {l : Int} (a : Ar w' p r ⟨H.set k v, t', l⟩) : Hw T G n p r (H.set k v) t' w' := by
  refine ⟨⟨l, a⟩, by simpa using h.len, by simpa using h.top, fun j => ?_, h.hT, h.hG, h.hn⟩
  rw [getD_set']
  split
  · exact ⟨h0, h1⟩
  · exact h.ok j
theorem kp_draws (w : World) (S : List Nat) : Kp S w w.drew := (Kp.refl S w).drew
theorem in_words (H : List Int) (t : Nat) (l : Int) (k : Nat) (hk : k < H.length) : inB ⟨H, t, l⟩ (k : Int) = true := by
  simp only [inB_iff]; omega

/-- A word is read. -/
theorem rd_word (h : Hw T G n p r H t w) (ht : t ≤ 900000) (k : Nat) (hk : k < H.length) (j x : Int) (hj : j = k) (hx : H.getD k 0 = x) : Calls Tryd.prog 106 #[.pointer (some ⟨p, 0, none⟩), .int .i64 j] w fun e w' => e = .returned (.int .u64 x) ∧ Hw T G n p r H (t + 1) w' ∧ Kp [p, r] w w' := by
  obtain ⟨l, a⟩ := h.ar
  subst hj
  have := read_any w p r _ (k : Int) a h.top (by show t ≤ 1000000; omega)
  have hin := in_words H t l k hk
  rw [was_in hin, upd_in hin] at this
  simp only [Int.toNat_natCast] at this
  rw [set_same', hx] at this
  exact this.mono fun e w' ⟨h1, h2, h3⟩ => ⟨h1, ⟨⟨_, h2⟩, h.len, h.top, h.ok, h.hT, h.hG, h.hn⟩, h3⟩
/-- A word is written. -/
theorem wr_word (h : Hw T G n p r H t w) (ht : t ≤ 900000) (k : Nat) (hk : k < H.length) (j x : Int) (hj : j = k) (h0 : 0 ≤ x) (h1 : x < 18446744073709551616) : Calls Tryd.prog 108 #[.pointer (some ⟨p, 0, none⟩), .int .i64 j, .int .u64 x] w fun e w' => e = .returned (.tuple #[]) ∧ Hw T G n p r (H.set k x) (t + 1) w' ∧ Kp [p, r] w w' := by
  obtain ⟨l, a⟩ := h.ar
  subst hj
  have := write_any w p r _ (k : Int) x a h.top (by show t ≤ 1000000; omega)
  rw [upd_in (in_words H t l k hk)] at this
  simp only [Int.toNat_natCast] at this
  exact this.mono fun e w' ⟨h2, h3, h4⟩ => ⟨h2, h.put h0 h1 h3, h4⟩
end

/-- Update at a place that there is, by a closure that turns blocks of its own (B) and makes memory. -/
theorem upd_boxes (w : World) (p r : Nat) (s : St) (k : Int) (g : FuncId) (cap : Array Value) (y : Int) (B : List Nat) (R : World → Prop) (h : Ar w p r s) (hn : s.ws.length ≤ 4096) (ht : s.t ≤ 1000000) (hk : inB s k = true) (hp : p ∉ B) (hr : r ∉ B)
    (hR : ∀ w2 w3, R w2 → Kp [r] w2 w3 → R w3)
    (hen : ∀ (x : Value) (w : World), (callFunc g (#[x] ++ cap)).run Tryd.prog w = .ok (.enter g (#[x] ++ cap)) w)
    (hcall : ∀ w1, Kp [p] w w1 → Calls Tryd.prog g (#[.int .u64 (was s k)] ++ cap) w1 fun e w' => e = .returned (.int .u64 y) ∧ Kp B w1 w' ∧ R w') :
    Calls Tryd.prog 107 #[.pointer (some ⟨p, 0, none⟩), .int .i64 k, .func (.func g) #[] cap] w fun e w' => e = .returned (.int .u64 (was s k)) ∧ Ar w' p r (upd s k y) ∧ Kp (p :: r :: B) w w' ∧ R w' := by
  have hmf : ∀ (fn : Fn) (first cap : Array Value) (w : World), (Instr.makeFunc fn first cap).run Tryd.prog w = .ok (.func fn first cap) w := fun _ _ _ _ => rfl
  have hfn := func_nil
  obtain ⟨hk0, hk1⟩ := inB_iff.1 hk
  have hk3 : k.toNat < s.ws.length := by omega
  have HC := hcall (tw w p s.t k) (tw_kp w p s.t k)
  rw [was_in hk] at HC ⊢
  rw [upd_in hk]
  have hcr : Hid (∀ w2, Kp B (tw w p s.t k) w2 → w2.cell? ⟨r, k.toNat, none⟩ = some (.int .u64 (s.ws.getD k.toNat 0)) ∧ w2.frozen? ⟨r, k.toNat, none⟩ = false) :=
    Lib.hid fun w2 h2 => ⟨((h.tw k).keep h2 hp hr).cr hk3, ((h.tw k).keep h2 hp hr).fr _⟩
  have HF : Hid (∀ w2, Kp B (tw w p s.t k) w2 → R w2 → Ar (w2.setCell ⟨r, k.toNat, none⟩ (.int .u64 y)) p r ⟨s.ws.set k.toNat y, s.t + 1, k⟩ ∧ Kp (p :: r :: B) w (w2.setCell ⟨r, k.toNat, none⟩ (.int .u64 y)) ∧ R (w2.setCell ⟨r, k.toNat, none⟩ (.int .u64 y))) :=
    Lib.hid fun w2 h2 h3 => ⟨((h.tw k).keep h2 hp hr).store _ _, (((tw_kp w p s.t k).mono (by simp)).trans (h2.mono (fun x hx _ => by simp [hx]))).setCell (.inl (by simp)) _, hR _ _ h3 ((Kp.refl [r] w2).setCell (.inl (by simp)) _)⟩
  have hto := touch_in w p r s k h hn ht hk
  clear hcall hR
  generalize s.ws.getD k.toNat 0 = x0 at HC hcr ⊢
  generalize tw w p s.t k = w1 at HC hcr hto HF ⊢
  go_enter_defers Tryd.func107, Tryd.ntmps107
  go_wp2_with (go_at_call 111; refine hto.mono ?_; rintro e w1 ⟨rfl, rfl⟩; have hcr1 := (hcr.out _ (Kp.refl _ _)).1)
  refine HC.mono ?_
  rintro e w2 ⟨rfl, hk2, h3⟩
  obtain ⟨hc2, hf2⟩ := hcr.out w2 hk2
  have HK := Lib.hid (HF.out w2 hk2 h3)
  clear hk2 hcr h3
  go_wp2_with fail
  refine leaves_cons (f := 110) (args := #[]) (by simp) (by simp [go_sem]) ?_
  refine (catch_idle _).mono ?_
  rintro e u' w'' ⟨rfl, rfl, rfl⟩
  simp only [Leaves, settle, results, Tryd.results107]
  simp [go_sem]
  exact HK.out

/-- The map is made another one by a closure over its own boxes. -/
theorem up_map {T G n p r t : Nat} {H : List Int} {w : World} (h : Hw T G n p r H t w) (ht : t ≤ 900000) (f : FuncId) (cap : Array Value) (M y : Nat) (B : List Nat) (R : World → Prop) (hM : H.getD 0 0 = M) (hy : y < 18446744073709551616) (hp : p ∉ B) (hr : r ∉ B)
    (hR : ∀ w2 w3, R w2 → Kp [r] w2 w3 → R w3)
    (hen : ∀ (x : Value) (w : World), (callFunc f (#[x] ++ cap)).run Tryd.prog w = .ok (.enter f (#[x] ++ cap)) w)
    (hcall : ∀ w1, Kp [p] w w1 → Calls Tryd.prog f (#[.int .u64 M] ++ cap) w1 fun e w' => e = .returned (.int .u64 y) ∧ Kp B w1 w' ∧ R w') :
    Calls Tryd.prog 107 #[.pointer (some ⟨p, 0, none⟩), .int .i64 0, .func (.func f) #[] cap] w fun e w' => e = .returned (.int .u64 M) ∧ Hw T G n p r (H.set 0 y) (t + 1) w' ∧ Kp (p :: r :: B) w w' ∧ R w' := by
  obtain ⟨l, a⟩ := h.ar
  have hl := h.len
  have hin : inB ⟨H, t, l⟩ 0 = true := in_words H t l 0 (by omega)
  have hw : was ⟨H, t, l⟩ 0 = M := by rw [was_in hin]; exact hM
  have := upd_boxes w p r _ 0 f cap y B R a h.top (by show t ≤ 1000000; omega) hin hp hr hR hen (by rw [hw]; exact hcall)
  rw [hw, upd_in hin] at this
  exact this.mono fun e w' ⟨h1, h2, h3, h4⟩ => ⟨h1, h.put (by omega) (by omega) h2, h3, h4⟩

/-- What is asked of numbers. -/
theorem g_mayRun (r : Int) (b : Bool) (w : World) (h : decide (1 ≤ r ∧ r ≤ 3) = b) : Calls Tryd.prog 57 #[.int .i64 r] w fun e w' => e = .returned (.bool b) ∧ w = w' := by
  have HH := Lib.hid h
  clear h
  go_enter Tryd.func57, Tryd.ntmps57
  go_wp2
  all_goals go_ret
  all_goals exact ⟨Bm.ret_bool (by rw [← HH.out, Bool.eq_iff_iff]; simp only [decide_eq_true_eq, Bool.false_eq_true]; constructor <;> intro hq <;> first | exact hq.elim | omega), rfl⟩

theorem g_has (T G n : Nat) (b r : Int) (w : World) (hn : n ≤ 64) : Calls Tryd.prog 40 #[.agg #[.int .i64 T, .int .i64 G, .int .i64 n], .int .i64 b, .int .i64 r] w fun e w' => e = .returned (.bool (runG n b r)) ∧ Kp [] w w' := by
  have hb := Lib.hid (fun w => Ly.blocks_is T G n w)
  rcases (by omega : ¬ (1 ≤ r ∧ r ≤ 3) ∨ (1 ≤ r ∧ r ≤ 3 ∧ b < 0) ∨ (1 ≤ r ∧ r ≤ 3 ∧ 0 ≤ b ∧ (n : Int) - r < b) ∨ (1 ≤ r ∧ r ≤ 3 ∧ 0 ≤ b ∧ b ≤ (n : Int) - r)) with h1 | ⟨h1, h2, h3⟩ | ⟨h1, h2, h3, h4⟩ | ⟨h1, h2, h3, h4⟩
  · rw [runG_not.2 (by omega)]
    have hm := g_mayRun r false (w.alloc (.cells #[.int .i64 T, .int .i64 G, .int .i64 n] 29)) (by simp; omega)
    go_enter Tryd.func40, Tryd.ntmps40
    go_wp2_with ((with_reducible refine hm.mono ?_); rintro e w' ⟨rfl, rfl⟩)
    go_ret
    exact ⟨rfl, (Kp.refl _ _).alloc _⟩
  all_goals
    have hm := g_mayRun r true (w.alloc (.cells #[.int .i64 T, .int .i64 G, .int .i64 n] 29)) (by simp; omega)
  · rw [runG_not.2 (by omega)]
    go_enter Tryd.func40, Tryd.ntmps40
    go_wp2_with ((with_reducible refine hm.mono ?_); rintro e w' ⟨rfl, rfl⟩)
    go_ret
    exact ⟨rfl, (Kp.refl _ _).alloc _⟩
  · rw [runG_not.2 (by omega)]
    go_enter Tryd.func40, Tryd.ntmps40
    go_wp2_with (first | ((with_reducible refine hm.mono ?_); rintro e w' ⟨rfl, rfl⟩) | ((with_reducible refine (hb.out _).mono ?_); rintro e w' ⟨rfl, hk⟩; have K := Lib.hid (((Kp.refl [] w).alloc _).trans hk); clear hk))
    go_ret
    exact ⟨Bm.ret_bool (by simp; omega), K.out⟩
  · rw [runG_iff.2 (by omega)]
    go_enter Tryd.func40, Tryd.ntmps40
    go_wp2_with (first | ((with_reducible refine hm.mono ?_); rintro e w' ⟨rfl, rfl⟩) | ((with_reducible refine (hb.out _).mono ?_); rintro e w' ⟨rfl, hk⟩; have K := Lib.hid (((Kp.refl [] w).alloc _).trans hk); clear hk))
    go_ret
    exact ⟨rfl, K.out⟩

theorem g_waits (k c r o : Int) (q : Bool) (w : World) (h : decide (k = 4 ∨ k = 5) = q) : Calls Tryd.prog 69 #[.agg #[.int .u8 k, .int .u8 c, .int .u8 r, .int .u8 o]] w fun e w' => e = .returned (.bool q) ∧ Kp [] w w' := by
  rcases (by by_cases h4 : k = 4 <;> by_cases h5 : k = 5 <;> simp [h4, h5] : k = 4 ∨ k = 5 ∨ ((k == 4) = false ∧ (k == 5) = false)) with rfl | rfl | ⟨h4, h5⟩
  · obtain rfl : true = q := by simpa using h
    go_enter Tryd.func69, Tryd.ntmps69
    go_wp2
    go_ret
    exact ⟨rfl, (Kp.refl _ _).alloc _⟩
  · obtain rfl : true = q := by simpa using h
    go_enter Tryd.func69, Tryd.ntmps69
    go_wp2
    go_ret
    exact ⟨rfl, (Kp.refl _ _).alloc _⟩
  · obtain rfl : false = q := by rw [← h]; symm; simp only [decide_eq_false_iff_not]; simp at h4 h5; omega
    clear h
    go_enter Tryd.func69, Tryd.ntmps69
    go_wp2
    go_ret
    exact ⟨rfl, (Kp.refl _ _).alloc _⟩

end Go.Proofs.YtinkpbenmfnnhaaDoor

namespace Go.Proofs.YtinkpbenmfnnhaaDoor
set_option linter.unusedVariables false
set_option linter.unusedSimpArgs false
open Go.RowKit

theorem kp_cell {S : List Nat} {w w' : World} (k : Kp S w w') {g o : Nat} (hg : g ∉ S) {v : Value} (h : w.cell? ⟨g, o, none⟩ = some v) : w'.cell? ⟨g, o, none⟩ = some v :=
  (World.cell?_of_block (a := ⟨g, o, none⟩) (k.block g (World.block_lt_of_cell? _ _ h) hg)).trans h

/-- A layout's box. -/
structure Lx (a T G n : Nat) (w : World) : Prop where
  c0 : w.cell? ⟨a, 0, none⟩ = some (.int .i64 T)
  c1 : w.cell? ⟨a, 1, none⟩ = some (.int .i64 G)
  c2 : w.cell? ⟨a, 2, none⟩ = some (.int .i64 n)
theorem Lx.keep {S : List Nat} {a T G n : Nat} {w w' : World} (h : Lx a T G n w) (k : Kp S w w') (ha : a ∉ S) : Lx a T G n w' := ⟨kp_cell k ha h.c0, kp_cell k ha h.c1, kp_cell k ha h.c2⟩
theorem Lx.new (w : World) (T G n : Nat) : Lx w.heap.size T G n (w.alloc (.cells #[.int .i64 T, .int .i64 G, .int .i64 n] 29)) := ⟨by simp, by simp, by simp⟩

theorem na_write (k : Nat) (a : Addr) (w : World) : (nilAhead (k + 1) 27 (.pointer (some a)) "Write").run Tryd.prog w = .ok (some false) w := by kernel_rfl
theorem na_read (k : Nat) (a : Addr) (w : World) : (nilAhead (k + 1) 27 (.pointer (some a)) "Read").run Tryd.prog w = .ok (some false) w := by kernel_rfl

section
variable {T G n p r t : Nat} {H : List Int} {w w' : World}
set_option maxRecDepth 100000 in
set_option maxHeartbeats 2000000 in
theorem g_begin (h : Hw T G n p r H t w) (ht : t ≤ 900000) (M' : Nat) (hM : 2 ^ min n 64 - 1 = M') :
    Calls Tryd.prog 11 #[.iface 27 (.pointer (some ⟨p, 0, none⟩)), .agg #[.int .i64 T, .int .i64 G, .int .i64 n]] w fun e w' => e = .returned (.tuple #[]) ∧ Hw T G n p r (H.set 0 (M' : Int)) (t + 1) w' ∧ Kp [p, r] w w' := by
  have hB := Lib.hid (fun w => Ly.blocks_is T G n w)
  have hA := Lib.hid (fun w => Bm.all_is n M' w (by simpa using hM))
  have hlt : M' < 18446744073709551616 := by
    have h1 : 2 ^ min n 64 ≤ 2 ^ 64 := Nat.pow_le_pow_right (by omega) (Nat.min_le_right _ _)
    have h2 := Nat.two_pow_pos (min n 64)
    omega
  have HL := Lib.hid hlt
  have HZ : Hid (0 < H.length) := Lib.hid (by have := h.len; omega)
  have HL2 : Hid ((M' : Int) < 18446744073709551616) := Lib.hid (by omega)
  have K0 := Lib.hid ((Kp.refl [] w).alloc (.cells #[.int .i64 T, .int .i64 G, .int .i64 n] 29))
  have HG := Lib.hid h
  clear hM hlt
  have hna := na_write
  go_enter Tryd.func11, Tryd.ntmps11
  go_wp2
  go_region_with (first
    | (go_at_call 10; refine (hB.out _).mono ?_; rintro e w1 ⟨rfl, hk⟩; have K1 : Hid (Kp [] w w1) := Lib.hid (by refine K0.out.trans (Kp.trans ?_ hk); exact ⟨rfl, rfl, rfl, Nat.le_refl _, fun _ _ _ => rfl⟩); clear hk)
    | (go_at_call 21; refine (hA.out _).mono ?_; rintro e w2 ⟨rfl, rfl⟩)
    | (go_at_call 108
       refine (wr_word (HG.out.on (K1.out.trans ?_)) ht 0 HZ.out 0 M' rfl (Int.natCast_nonneg _) HL2.out).mono ?_
       · exact ⟨rfl, rfl, rfl, Nat.le_refl _, fun _ _ _ => rfl⟩
       rintro e w3 ⟨rfl, hg, hk⟩
       have G3 := Lib.hid hg
       have K3 : Hid (Kp [p, r] w w3) := Lib.hid (by refine (K1.out.mono (by simp)).trans (Kp.trans ?_ hk); exact ⟨rfl, rfl, rfl, Nat.le_refl _, fun _ _ _ => rfl⟩)
       clear hg hk))
  all_goals
    go_wp2
    go_end0
    exact ⟨rfl, G3.out, K3.out⟩

/-- The parts of an entry's word. -/
def ek (x : Int) : Int := if Tb.takeE x then x % 8 else 0
def ec (x : Int) : Int := if Tb.takeE x then x / 8 % 4 else 0
def er (x : Int) : Int := if Tb.takeE x then x / 32 % 4 else 0
def eo (x : Int) : Int := if Tb.takeE x then x / 128 % 64 else 0
def ee (x : Int) : Int := if Tb.takeE x then 0 else 3
theorem take_part (x : Int) (w : World) (h0 : 0 ≤ x) (h1 : x < 18446744073709551616) :
    Calls Tryd.prog 59 #[.int .u64 x] w fun e w' => e = .returned (.tuple #[.agg #[.int .u8 (ek x), .int .u8 (ec x), .int .u8 (er x), .int .u8 (eo x)], .int .i64 (ee x)]) ∧ Kp [] w w' := by
  unfold ek ec er eo ee
  cases h : Tb.takeE x
  · exact Tb.take_none x w h0 h1 h
  · exact Tb.take_some x w h0 h
theorem entry_at (k : Nat) (w : World) (hT : T ≤ 64) (hG : G ≤ 8) (hn : n ≤ 64) (hk : k < n) : Calls Tryd.prog 41 #[.agg #[.int .i64 T, .int .i64 G, .int .i64 n], .int .i64 k] w fun e w' => e = .returned (.int .i64 ((3 + T + G + k : Nat) : Int)) ∧ Kp [] w w' :=
  Ly.entry_is T G n k ((3 + T + G + k : Nat) : Int) w (by rw [Ly.rowP_in (by omega) (by omega)]; omega) (by omega) (by omega) (by omega) (by omega) (by omega) (by omega)

end
end Go.Proofs.YtinkpbenmfnnhaaDoor
