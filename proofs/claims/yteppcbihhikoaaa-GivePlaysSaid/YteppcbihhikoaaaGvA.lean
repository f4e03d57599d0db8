/- The walks of package give: the arena of blocks (Gw), what is asked of numbers, one touch each. Conditions: as each theorem states them. -/
import Derived.Test.YteppcbihhikoaaaGvP
import Derived.Test.YteppcbihhikoaaaArnK
import Derived.Test.YteppcbihhikoaaaTbB
import Derived.Test.YteppcbihhikoaaaLyB
import Derived.Deep.RegionWith
import Derived.LoopTactic
import Derived.Deep.LoopGhost
namespace Go.Proofs.Yteppcbihhikoaaa
set_option linter.unusedVariables false
set_option linter.unusedSimpArgs false
open Go.RowKit

/-- The arena at p, r has n blocks, stands at g, and was touched t times. -/
structure Gw (n : Nat) (p r : Nat) (g : Gv) (t : Nat) (w : World) : Prop where
  ar : ∃ l, Ar w p r ⟨wordsG n g, t, l⟩
  ok : g.Ok n
  hn : n ≤ 64

section
variable {n p r t : Nat} {g : Gv} {w w' : World}
theorem Gw.keep {S : List Nat} (h : Gw n p r g t w) (k : Kp S w w') (hp : p ∉ S) (hr : r ∉ S) : Gw n p r g t w' :=
  let ⟨l, a⟩ := h.ar
  ⟨⟨l, a.keep k hp hr⟩, h.ok, h.hn⟩
theorem Gw.on (h : Gw n p r g t w) (k : Kp [] w w') : Gw n p r g t w' := h.keep k (by simp) (by simp)
theorem Gw.lt (h : Gw n p r g t w) : p < w.heap.size ∧ r < w.heap.size :=
  let ⟨_, a⟩ := h.ar
  a.lt
theorem kp_draws (w : World) (S : List Nat) : Kp S w w.drew := (Kp.refl S w).drew

theorem in_map (n : Nat) (g : Gv) (h : g.E.length = n) (t : Nat) (l : Int) : inB ⟨wordsG n g, t, l⟩ 0 = true := by
  simp only [inB_iff, wordsG_len n g h]; omega
theorem in_ent (n : Nat) (g : Gv) (h : g.E.length = n) (t : Nat) (l : Int) (k : Nat) (hk : k < n) : inB ⟨wordsG n g, t, l⟩ ((5 + k : Nat) : Int) = true := by
  simp only [inB_iff, wordsG_len n g h]; omega
theorem was_map (n : Nat) (g : Gv) (h : g.E.length = n) (t : Nat) (l : Int) : was ⟨wordsG n g, t, l⟩ 0 = g.M := by
  rw [was_in (in_map n g h t l)]; rfl
theorem was_ent (n : Nat) (g : Gv) (h : g.E.length = n) (t : Nat) (l : Int) (k : Nat) (hk : k < n) : was ⟨wordsG n g, t, l⟩ ((5 + k : Nat) : Int) = g.E.getD k 0 := by
  rw [was_in (in_ent n g h t l k hk)]
  exact wordsG_ent n g h k hk
theorem upd_map (n : Nat) (g : Gv) (h : g.E.length = n) (t : Nat) (l : Int) (x : Nat) : upd ⟨wordsG n g, t, l⟩ 0 (x : Int) = ⟨wordsG n ⟨x, g.E⟩, t + 1, 0⟩ := by
  rw [upd_in (in_map n g h t l)]; rfl
theorem upd_ent (n : Nat) (g : Gv) (h : g.E.length = n) (t : Nat) (l : Int) (k : Nat) (hk : k < n) (v : Int) : upd ⟨wordsG n g, t, l⟩ ((5 + k : Nat) : Int) v = ⟨wordsG n ⟨g.M, g.E.set k v⟩, t + 1, (5 + k : Nat)⟩ := by
  rw [upd_in (in_ent n g h t l k hk), ← wordsG_setE n g h k hk v]; rfl
theorem set_same (E : List Int) (k : Nat) : E.set k (E.getD k 0) = E := by
  apply ext_getD (by simp)
  intro j hj
  rw [getD_set _ _ _ _ (by simpa using hj)]
  split
  · rename_i e; rw [e]
  · rfl
theorem Gw.len (h : Gw n p r g t w) (t' : Nat) (l : Int) : (St.mk (wordsG n g) t' l).ws.length ≤ 4096 := by
  have := h.hn
  show (wordsG n g).length ≤ 4096
  rw [wordsG_len n g h.ok.len]; omega

/-- The map is read; an entry is read. -/
theorem rd_map (h : Gw n p r g t w) (ht : t ≤ 900000) : Calls Try.prog 20 #[.pointer (some ⟨p, 0, none⟩), .int .i64 0] w fun e w' => e = .returned (.int .u64 g.M) ∧ Gw n p r g (t + 1) w' ∧ Kp [p, r] w w' := by
  obtain ⟨l, a⟩ := h.ar
  have := read_any w p r _ 0 a (h.len t l) (by show t ≤ 1000000; omega)
  rw [was_map n g h.ok.len, upd_map n g h.ok.len] at this
  exact this.mono fun e w' ⟨h1, h2, h3⟩ => ⟨h1, ⟨⟨_, h2⟩, h.ok, h.hn⟩, h3⟩
theorem rd_ent (h : Gw n p r g t w) (ht : t ≤ 900000) (k : Nat) (hk : k < n) (j x : Int) (hj : j = 5 + k) (hx : g.E.getD k 0 = x) : Calls Try.prog 20 #[.pointer (some ⟨p, 0, none⟩), .int .i64 j] w fun e w' => e = .returned (.int .u64 x) ∧ Gw n p r g (t + 1) w' ∧ Kp [p, r] w w' := by
  obtain ⟨l, a⟩ := h.ar
  have := read_any w p r _ j a (h.len t l) (by show t ≤ 1000000; omega)
  obtain rfl : j = ((5 + k : Nat) : Int) := by rw [hj]; simp
  rw [was_ent n g h.ok.len t l k hk, upd_ent n g h.ok.len t l k hk, set_same, hx] at this
  exact this.mono fun e w' ⟨h1, h2, h3⟩ => ⟨h1, ⟨⟨_, h2⟩, h.ok, h.hn⟩, h3⟩
/-- The map is written; an entry is written. -/
theorem wr_map (h : Gw n p r g t w) (ht : t ≤ 900000) (x : Nat) (hx : x < 18446744073709551616) : Calls Try.prog 81 #[.pointer (some ⟨p, 0, none⟩), .int .i64 0, .int .u64 x] w fun e w' => e = .returned (.tuple #[]) ∧ Gw n p r ⟨x, g.E⟩ (t + 1) w' ∧ Kp [p, r] w w' := by
  obtain ⟨l, a⟩ := h.ar
  have := write_any w p r _ 0 x a (h.len t l) (by show t ≤ 1000000; omega)
  rw [upd_map n g h.ok.len] at this
  exact this.mono fun e w' ⟨h1, h2, h3⟩ => ⟨h1, ⟨⟨_, h2⟩, h.ok.setM hx, h.hn⟩, h3⟩
theorem wr_ent (h : Gw n p r g t w) (ht : t ≤ 900000) (k : Nat) (hk : k < n) (j x : Int) (hj : j = 5 + k) (h0 : 0 ≤ x) (h1 : x < 18446744073709551616) : Calls Try.prog 81 #[.pointer (some ⟨p, 0, none⟩), .int .i64 j, .int .u64 x] w fun e w' => e = .returned (.tuple #[]) ∧ Gw n p r ⟨g.M, g.E.set k x⟩ (t + 1) w' ∧ Kp [p, r] w w' := by
  obtain ⟨l, a⟩ := h.ar
  have := write_any w p r _ j x a (h.len t l) (by show t ≤ 1000000; omega)
  obtain rfl : j = ((5 + k : Nat) : Int) := by rw [hj]; simp
  rw [upd_ent n g h.ok.len t l k hk] at this
  exact this.mono fun e w' ⟨h2, h3, h4⟩ => ⟨h2, ⟨⟨_, h3⟩, h.ok.setE k h0 h1, h.hn⟩, h4⟩
/-- How often it was touched. -/
theorem g_touched (h : Gw n p r g t w) : Calls Try.prog 8 #[.pointer (some ⟨p, 0, none⟩)] w fun e w' => e = .returned (.int .u64 t) ∧ w = w' := by
  obtain ⟨l, a⟩ := h.ar
  exact (touched_any w p r _ a).mono fun e w' ⟨h1, h2⟩ => ⟨h1, h2.symm⟩
end

/-- Update at a place that there is, by a closure that turns blocks of its own (B) and makes memory. -/
theorem upd_boxes (w : World) (p r : Nat) (s : St) (k : Int) (g : FuncId) (cap : Array Value) (y : Int) (B : List Nat) (R : World → Prop) (h : Ar w p r s) (hn : s.ws.length ≤ 4096) (ht : s.t ≤ 1000000) (hk : inB s k = true) (hp : p ∉ B) (hr : r ∉ B)
    (hR : ∀ w2 w3, R w2 → Kp [r] w2 w3 → R w3)
    (hen : ∀ (x : Value) (w : World), (callFunc g (#[x] ++ cap)).run Try.prog w = .ok (.enter g (#[x] ++ cap)) w)
    (hcall : ∀ w1, Kp [p] w w1 → Calls Try.prog g (#[.int .u64 (was s k)] ++ cap) w1 fun e w' => e = .returned (.int .u64 y) ∧ Kp B w1 w' ∧ R w') :
    Calls Try.prog 44 #[.pointer (some ⟨p, 0, none⟩), .int .i64 k, .func (.func g) #[] cap] w fun e w' => e = .returned (.int .u64 (was s k)) ∧ Ar w' p r (upd s k y) ∧ Kp (p :: r :: B) w w' ∧ R w' := by
  have hmf : ∀ (fn : Fn) (first cap : Array Value) (w : World), (Instr.makeFunc fn first cap).run Try.prog w = .ok (.func fn first cap) w := fun _ _ _ _ => rfl
  have hfn := func_nil
  obtain ⟨hk0, hk1⟩ := inB_iff.1 hk
  have hk3 : k.toNat < s.ws.length := by omega
  have HC := hcall (tw w p s.t k) (tw_kp w p s.t k)
  rw [was_in hk] at HC ⊢
  rw [upd_in hk]
  have hcr : Hid (∀ w2, Kp B (tw w p s.t k) w2 → w2.cell? ⟨r, k.toNat, none⟩ = some (.int .u64 (s.ws.getD k.toNat 0)) ∧ w2.frozen? ⟨r, k.toNat, none⟩ = false) :=
    Lib.hid fun w2 h2 => ⟨((h.tw k).keep h2 hp hr).cr hk3, ((h.tw k).keep h2 hp hr).fr _⟩
  have HF : Hid (∀ w2, Kp B (tw w p s.t k) w2 → R w2 → Ar (w2.setCell ⟨r, k.toNat, none⟩ (.int .u64 y)) p r ⟨s.ws.set k.toNat y, s.t + 1, k⟩ ∧ Kp (p :: r :: B) w (w2.setCell ⟨r, k.toNat, none⟩ (.int .u64 y)) ∧ R (w2.setCell ⟨r, k.toNat, none⟩ (.int .u64 y))) :=
    Lib.hid fun w2 h2 h3 => ⟨((h.tw k).keep h2 hp hr).store _ _, (((tw_kp w p s.t k).mono (by simp)).trans (h2.mono (fun x hx _ => by simp [hx]))).setCell (.inl (by simp)) _, hR _ _ h3 ((Kp.refl [r] w2).setCell (.inl (by simp)) _)⟩
  have hto := touch_in w p r s k h hn ht hk
  clear hcall hR
  generalize s.ws.getD k.toNat 0 = x0 at HC hcr ⊢
  generalize tw w p s.t k = w1 at HC hcr hto HF ⊢
  go_enter_defers Try.func44, Try.ntmps44
  go_wp2_with (go_at_call 57; refine hto.mono ?_; rintro e w1 ⟨rfl, rfl⟩; have hcr1 := (hcr.out _ (Kp.refl _ _)).1)
  refine HC.mono ?_
  rintro e w2 ⟨rfl, hk2, h3⟩
  obtain ⟨hc2, hf2⟩ := hcr.out w2 hk2
  have HK := Lib.hid (HF.out w2 hk2 h3)
  clear hk2 hcr h3
  go_wp2_with fail
  refine leaves_cons (f := 56) (args := #[]) (by simp) (by simp [go_sem]) ?_
  refine (catch_idle _).mono ?_
  rintro e u' w'' ⟨rfl, rfl, rfl⟩
  simp only [Leaves, settle, results, Try.results44]
  simp [go_sem]
  exact HK.out

/-- The map is made another one by a closure over its own boxes. -/
theorem up_map {n p r t : Nat} {g : Gv} {w : World} (h : Gw n p r g t w) (ht : t ≤ 900000) (f : FuncId) (cap : Array Value) (y : Nat) (B : List Nat) (R : World → Prop) (hy : y < 18446744073709551616) (hp : p ∉ B) (hr : r ∉ B)
    (hR : ∀ w2 w3, R w2 → Kp [r] w2 w3 → R w3)
    (hen : ∀ (x : Value) (w : World), (callFunc f (#[x] ++ cap)).run Try.prog w = .ok (.enter f (#[x] ++ cap)) w)
    (hcall : ∀ w1, Kp [p] w w1 → Calls Try.prog f (#[.int .u64 g.M] ++ cap) w1 fun e w' => e = .returned (.int .u64 y) ∧ Kp B w1 w' ∧ R w') :
    Calls Try.prog 44 #[.pointer (some ⟨p, 0, none⟩), .int .i64 0, .func (.func f) #[] cap] w fun e w' => e = .returned (.int .u64 g.M) ∧ Gw n p r ⟨y, g.E⟩ (t + 1) w' ∧ Kp (p :: r :: B) w w' ∧ R w' := by
  obtain ⟨l, a⟩ := h.ar
  have := upd_boxes w p r _ 0 f cap y B R a (h.len t l) (by show t ≤ 1000000; omega) (in_map n g h.ok.len t l) hp hr hR hen (by rw [was_map n g h.ok.len]; exact hcall)
  rw [was_map n g h.ok.len, upd_map n g h.ok.len] at this
  exact this.mono fun e w' ⟨h1, h2, h3, h4⟩ => ⟨h1, ⟨⟨_, h2⟩, h.ok.setM hy, h.hn⟩, h3, h4⟩

/-- What is asked of numbers. -/
theorem g_mayRun (r : Int) (b : Bool) (w : World) (h : decide (1 ≤ r ∧ r ≤ 3) = b) : Calls Try.prog 29 #[.int .i64 r] w fun e w' => e = .returned (.bool b) ∧ w = w' := by
  have HH := Lib.hid h
  clear h
  go_enter Try.func29, Try.ntmps29
  go_wp2
  all_goals go_ret
  all_goals exact ⟨Bm.ret_bool (by rw [← HH.out, Bool.eq_iff_iff]; simp only [decide_eq_true_eq, Bool.false_eq_true]; constructor <;> intro hq <;> first | exact hq.elim | omega), rfl⟩

theorem g_has (n : Nat) (b r : Int) (w : World) (hn : n ≤ 64) : Calls Try.prog 35 #[.agg #[.int .i64 1, .int .i64 1, .int .i64 n], .int .i64 b, .int .i64 r] w fun e w' => e = .returned (.bool (runG n b r)) ∧ Kp [] w w' := by
  have hb := Lib.hid (fun w => Ly.blocks_is 1 1 n w)
  rcases (by omega : ¬ (1 ≤ r ∧ r ≤ 3) ∨ (1 ≤ r ∧ r ≤ 3 ∧ b < 0) ∨ (1 ≤ r ∧ r ≤ 3 ∧ 0 ≤ b ∧ (n : Int) - r < b) ∨ (1 ≤ r ∧ r ≤ 3 ∧ 0 ≤ b ∧ b ≤ (n : Int) - r)) with h1 | ⟨h1, h2, h3⟩ | ⟨h1, h2, h3, h4⟩ | ⟨h1, h2, h3, h4⟩
  · rw [runG_not.2 (by omega)]
    have hm := g_mayRun r false (w.alloc (.cells #[.int .i64 1, .int .i64 1, .int .i64 n] 26)) (by simp; omega)
    go_enter Try.func35, Try.ntmps35
    go_wp2_with ((with_reducible refine hm.mono ?_); rintro e w' ⟨rfl, rfl⟩)
    go_ret
    exact ⟨rfl, (Kp.refl _ _).alloc _⟩
  all_goals
    have hm := g_mayRun r true (w.alloc (.cells #[.int .i64 1, .int .i64 1, .int .i64 n] 26)) (by simp; omega)
  · rw [runG_not.2 (by omega)]
    go_enter Try.func35, Try.ntmps35
    go_wp2_with ((with_reducible refine hm.mono ?_); rintro e w' ⟨rfl, rfl⟩)
    go_ret
    exact ⟨rfl, (Kp.refl _ _).alloc _⟩
  · rw [runG_not.2 (by omega)]
    go_enter Try.func35, Try.ntmps35
    go_wp2_with (first | ((with_reducible refine hm.mono ?_); rintro e w' ⟨rfl, rfl⟩) | ((with_reducible refine (hb.out _).mono ?_); rintro e w' ⟨rfl, hk⟩; have K := Lib.hid (((Kp.refl [] w).alloc _).trans hk); clear hk))
    go_ret
    exact ⟨Bm.ret_bool (by simp; omega), K.out⟩
  · rw [runG_iff.2 (by omega)]
    go_enter Try.func35, Try.ntmps35
    go_wp2_with (first | ((with_reducible refine hm.mono ?_); rintro e w' ⟨rfl, rfl⟩) | ((with_reducible refine (hb.out _).mono ?_); rintro e w' ⟨rfl, hk⟩; have K := Lib.hid (((Kp.refl [] w).alloc _).trans hk); clear hk))
    go_ret
    exact ⟨rfl, K.out⟩

theorem g_waits (k c r o : Int) (q : Bool) (w : World) (h : decide (k = 4 ∨ k = 5) = q) : Calls Try.prog 40 #[.agg #[.int .u8 k, .int .u8 c, .int .u8 r, .int .u8 o]] w fun e w' => e = .returned (.bool q) ∧ Kp [] w w' := by
  rcases (by by_cases h4 : k = 4 <;> by_cases h5 : k = 5 <;> simp [h4, h5] : k = 4 ∨ k = 5 ∨ ((k == 4) = false ∧ (k == 5) = false)) with rfl | rfl | ⟨h4, h5⟩
  · obtain rfl : true = q := by simpa using h
    go_enter Try.func40, Try.ntmps40
    go_wp2
    go_ret
    exact ⟨rfl, (Kp.refl _ _).alloc _⟩
  · obtain rfl : true = q := by simpa using h
    go_enter Try.func40, Try.ntmps40
    go_wp2
    go_ret
    exact ⟨rfl, (Kp.refl _ _).alloc _⟩
  · obtain rfl : false = q := by rw [← h]; symm; simp only [decide_eq_false_iff_not]; simp at h4 h5; omega
    clear h
    go_enter Try.func40, Try.ntmps40
    go_wp2
    go_ret
    exact ⟨rfl, (Kp.refl _ _).alloc _⟩

end Go.Proofs.Yteppcbihhikoaaa
