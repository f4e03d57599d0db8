/- Package publish, its walks, on: share, look, Publish over an arena. Conditions: as each theorem states them. -/
import Derived.Test.YtdnlddjgjceogaaPbA
namespace Go.Proofs.Ytdnlddjgjceogaa
set_option linter.unusedVariables false
set_option linter.unusedSimpArgs false
set_option maxRecDepth 100000
open Go.RowKit

/-- Update at a place that there is, by a closure that turns blocks of its own (B) and makes memory. -/
theorem upd_boxes (w : World) (p r : Nat) (s : St) (k : Int) (g : FuncId) (cap : Array Value) (y : Int) (B : List Nat) (R : World → Prop) (h : Ar w p r s) (hn : s.ws.length ≤ 4096) (ht : s.t ≤ 1000000) (hk : inB s k = true) (hp : p ∉ B) (hr : r ∉ B)
    (hR : ∀ w2 w3, R w2 → Kp [r] w2 w3 → R w3)
    (hen : ∀ (x : Value) (w : World), (callFunc g (#[x] ++ cap)).run Try.prog w = .ok (.enter g (#[x] ++ cap)) w)
    (hcall : ∀ w1, Kp [p] w w1 → Calls Try.prog g (#[.int .u64 (was s k)] ++ cap) w1 fun e w' => e = .returned (.int .u64 y) ∧ Kp B w1 w' ∧ R w') :
    Calls Try.prog 26 #[.pointer (some ⟨p, 0, none⟩), .int .i64 k, .func (.func g) #[] cap] w fun e w' => e = .returned (.int .u64 (was s k)) ∧ Ar w' p r (upd s k y) ∧ Kp (p :: r :: B) w w' ∧ R w' := by
  have hmf : ∀ (fn : Fn) (first cap : Array Value) (w : World), (Instr.makeFunc fn first cap).run Try.prog w = .ok (.func fn first cap) w := fun _ _ _ _ => rfl
  have hfn := func_nil
  obtain ⟨hk0, hk1⟩ := inB_iff.1 hk
  have hk3 : k.toNat < s.ws.length := by omega
  have HC := hcall (tw w p s.t k) (tw_kp w p s.t k)
  rw [was_in hk] at HC ⊢
  rw [upd_in hk]
  have hcr : Hid (∀ w2, Kp B (tw w p s.t k) w2 → w2.cell? ⟨r, k.toNat, none⟩ = some (.int .u64 (s.ws.getD k.toNat 0)) ∧ w2.frozen? ⟨r, k.toNat, none⟩ = false) :=
    Lib.hid fun w2 h2 => ⟨((h.tw k).keep h2 hp hr).cr hk3, ((h.tw k).keep h2 hp hr).fr _⟩
  have HF : Hid (∀ w2, Kp B (tw w p s.t k) w2 → R w2 → Ar (w2.setCell ⟨r, k.toNat, none⟩ (.int .u64 y)) p r ⟨s.ws.set k.toNat y, s.t + 1, k⟩ ∧ Kp (p :: r :: B) w (w2.setCell ⟨r, k.toNat, none⟩ (.int .u64 y)) ∧ R (w2.setCell ⟨r, k.toNat, none⟩ (.int .u64 y))) :=
    Lib.hid fun w2 h2 h3 => ⟨((h.tw k).keep h2 hp hr).store _ _, (((tw_kp w p s.t k).mono (by simp)).trans (h2.mono (fun x hx _ => by simp [hx]))).setCell (.inl (by simp)) _, hR _ _ h3 ((Kp.refl [r] w2).setCell (.inl (by simp)) _)⟩
  have hto := touch_in w p r s k h hn ht hk
  clear hcall hR
  generalize s.ws.getD k.toNat 0 = x0 at HC hcr ⊢
  generalize tw w p s.t k = w1 at HC hcr hto HF ⊢
  go_enter_defers Try.func26, Try.ntmps26
  go_wp2_with (go_at_call 36; refine hto.mono ?_; rintro e w1 ⟨rfl, rfl⟩; have hcr1 := (hcr.out _ (Kp.refl _ _)).1)
  refine HC.mono ?_
  rintro e w2 ⟨rfl, hk2, h3⟩
  obtain ⟨hc2, hf2⟩ := hcr.out w2 hk2
  have HK := Lib.hid (HF.out w2 hk2 h3)
  clear hk2 hcr h3
  go_wp2_with fail
  refine leaves_cons (f := 35) (args := #[]) (by simp) (by simp [go_sem]) ?_
  refine (catch_idle _).mono ?_
  rintro e u' w'' ⟨rfl, rfl, rfl⟩
  simp only [Leaves, settle, results, Try.results26]
  simp [go_sem]
  exact HK.out


/-- What publishing holds: an arena, and a worklist in a box. -/
structure PQ (base : World) (p r bw : Nat) (s : St) (xs : List Int) (w : World) : Prop where
  ar : Ar w p r s
  kp : Kp [p, r, bw] base w
  q : ∃ v, Bx1 w bw v 32 ∧ Qw base.heap.size w v xs
  lt : p < base.heap.size ∧ r < base.heap.size ∧ bw < base.heap.size
  ok : ∀ k, 0 ≤ was s k ∧ was s k < 33554432
  n : s.ws.length ≤ 4096
section
variable {base w w' : World} {p r bw : Nat} {s : St} {xs : List Int}
theorem PQ.on (h : PQ base p r bw s xs w) (k : Kp [] w w') : PQ base p r bw s xs w' := by
  obtain ⟨v, h1, h2⟩ := h.q
  exact ⟨h.ar.keep k (by simp) (by simp), h.kp.trans (k.mono (by simp)), ⟨v, h1.keep k (by simp), h2.keep0 k⟩, h.lt, h.ok, h.n⟩
theorem PQ.ne (h : PQ base p r bw s xs w) : p ≠ bw ∧ r ≠ bw := by
  obtain ⟨v, h1, h2⟩ := h.q
  exact ⟨ne_types h.ar.hp h1 (by decide), ne_types h.ar.hr h1 (by decide)⟩

/-- What share makes of a word, of a worklist. -/
def shY (x c : Int) : Int := if locB x = true then pubI x c else x
def shS (s : St) (k c : Int) : St := upd s k (shY (was s k) c)
def shX (s : St) (xs : List Int) (k : Int) : List Int := if locB (was s k) = true then xs ++ [k] else xs
theorem locB_zero_no : locB 0 = false := by decide
theorem shY_ok {x c : Int} (h0 : 0 ≤ x) (h1 : x < 33554432) (hc0 : 0 ≤ c) (hc1 : c ≤ 1) : 0 ≤ shY x c ∧ shY x c < 33554432 := by
  unfold shY
  split
  · exact pubI_bounds ‹_› hc0 hc1
  · exact ⟨h0, h1⟩
theorem was_upd (s : St) (k y j : Int) : was (upd s k y) j = if inB s k = true ∧ j = k then y else was s j := by
  have hb' := inB_upd s k y j
  by_cases hk : inB s k = true
  · have hk2 := inB_iff.1 hk
    rw [upd_in hk] at hb' ⊢
    by_cases hj : j = k
    · subst hj
      rw [if_pos ⟨hk, rfl⟩, was_in (hb'.trans hk)]
      simp [List.getD, (show j.toNat < s.ws.length by omega)]
    · rw [if_neg (by simp [hj])]
      by_cases hb : inB s j = true
      · have hb2 := inB_iff.1 hb
        rw [was_in hb, was_in (hb'.trans hb)]
        simp only [List.getD]
        rw [List.getElem?_set_ne (by omega)]
      · have hb : inB s j = false := by simpa using hb
        rw [was_out hb, was_out (hb'.trans hb)]
  · rw [upd_out (by simpa using hk), if_neg (by simp [hk])]
theorem shS_ok {c : Int} (hc0 : 0 ≤ c) (hc1 : c ≤ 1) (h : ∀ k, 0 ≤ was s k ∧ was s k < 33554432) (k j : Int) : 0 ≤ was (shS s k c) j ∧ was (shS s k c) j < 33554432 := by
  unfold shS
  rw [was_upd]
  split
  · exact shY_ok (h k).1 (h k).2 hc0 hc1
  · exact h j

set_option maxHeartbeats 1000000 in
theorem share_any (h : PQ base p r bw s xs w) (ht : s.t ≤ 1000000) (hx : xs.length ≤ 100000) (k c : Int) (hc0 : 0 ≤ c) (hc1 : c ≤ 1) :
    Calls Try.prog 19 #[.iface 27 (.pointer (some ⟨p, 0, none⟩)), .int .i64 k, .int .u8 c, .pointer (some ⟨bw, 0, none⟩)] w fun e w' => e = .returned (.tuple #[]) ∧ PQ base p r bw (shS s k c) (shX s xs k) w' := by
  obtain ⟨v, hbx, hq⟩ := h.q
  obtain ⟨ao, cp, rfl⟩ := hq.form
  have hmf : ∀ (fn : Fn) (first cap : Array Value) (w : World), (Instr.makeFunc fn first cap).run Try.prog w = .ok (.func fn first cap) w := fun _ _ _ _ => rfl
  obtain ⟨nep, ner⟩ := h.ne
  have hlt := h.lt
  have hwz := h.kp.size
  have hbq : ∀ b ∈ blk (.slice ao xs.length cp), base.heap.size ≤ b := fun b hb => (hq.block b hb).1
  have hpq : p ∉ bw :: blk (.slice ao xs.length cp) := by simp only [List.mem_cons, not_or]; exact ⟨nep, fun hb => by have := hbq _ hb; omega⟩
  have hrq : r ∉ bw :: blk (.slice ao xs.length cp) := by simp only [List.mem_cons, not_or]; exact ⟨ner, fun hb => by have := hbq _ hb; omega⟩
  -- the boxes
  have HU : Hid (∀ W : World, Kp [] w W → ∀ b1 b2 b3 b4 : Nat, w.heap.size ≤ b1 → w.heap.size ≤ b2 → w.heap.size ≤ b3 → w.heap.size ≤ b4 → Bx1 W b1 (.slice ao xs.length cp) 32 → Bx1 W b2 (.pointer (some ⟨bw, 0, none⟩)) 34 → Bx1 W b3 (.int .i64 k) 3 → Bx1 W b4 (.int .u8 c) 5 →
      Calls Try.prog 26 #[.pointer (some ⟨p, 0, none⟩), .int .i64 k, .func (.func 29) #[] #[.pointer (some ⟨b1, 0, none⟩), .pointer (some ⟨b2, 0, none⟩), .pointer (some ⟨b3, 0, none⟩), .pointer (some ⟨b4, 0, none⟩)]] W fun e w' => e = .returned (.int .u64 (was s k)) ∧ PQ base p r bw (shS s k c) (shX s xs k) w') := by
    refine Lib.hid fun W kW b1 b2 b3 b4 g1 g2 g3 g4 h1 h2 h3 h4 => ?_
    have hW := h.on kW
    have hqW := hq.keep0 kW
    have hbxW := hbx.keep kW (by simp)
    have hzW := kW.size
    by_cases hk : inB s k = true
    · have hw0 := h.ok k
      by_cases hl : locB (was s k) = true
      · refine (upd_boxes W p r s k 29 #[.pointer (some ⟨b1, 0, none⟩), .pointer (some ⟨b2, 0, none⟩), .pointer (some ⟨b3, 0, none⟩), .pointer (some ⟨b4, 0, none⟩)] (pubI (was s k) c) (bw :: blk (.slice ao xs.length cp)) (fun w' => ∃ v', Bx1 w' bw v' 32 ∧ Qw base.heap.size w' v' (xs ++ [k])) hW.ar h.n ht hk hpq hrq ?_ (fun _ _ => rfl) ?_).mono ?_
        · rintro w2 w3 ⟨v', a1, a2⟩ k3
          exact ⟨v', a1.keep k3 (by simpa using Ne.symm ner), a2.keep k3 (fun b hb hb' => by have := (a2.block b hb).1; simp at hb'; omega)⟩
        · intro w1 k1
          have hpn : ∀ b, w.heap.size ≤ b → b ∉ [p] := fun b hb => by simp; omega
          refine (cl_yes (base := base.heap.size) (u := .slice ao xs.length cp) (v := .slice ao xs.length cp) (xs := xs) (at_ := k) hw0.1 hl hc0 hc1 (h1.keep k1 (hpn _ g1)) (h2.keep k1 (hpn _ g2)) (h3.keep k1 (hpn _ g3)) (h4.keep k1 (hpn _ g4)) (hbxW.keep k1 (by simpa using Ne.symm nep)) (hqW.keep k1 (fun b hb hb' => hpq (by simp at hb'; exact List.mem_cons_of_mem _ (hb' ▸ hb)))) (by have := k1.size; omega) hx).mono ?_
          rintro e w' ⟨he, v', a1, a2, a3, _⟩
          exact ⟨he, a1, v', a2, a3⟩
        · rintro e w' ⟨rfl, a1, a2, v', a3, a4⟩
          refine ⟨rfl, ⟨by rw [shS, shY, if_pos hl]; exact a1, ?_, ⟨v', a3, by rw [shX, if_pos hl]; exact a4⟩, h.lt, shS_ok hc0 hc1 h.ok k, by rw [shS, upd_len]; exact h.n⟩⟩
          exact ⟨a2.os.trans hW.kp.os, a2.tape.trans hW.kp.tape, a2.output.trans hW.kp.output, Nat.le_trans hW.kp.size a2.size, fun i hi hn => (a2.block i (Nat.lt_of_lt_of_le hi hW.kp.size) (by
            simp only [List.mem_cons, not_or, List.not_mem_nil] at hn ⊢
            exact ⟨hn.1, hn.2.1, hn.2.2.1, fun hb => by have := hbq _ hb; omega⟩)).trans (hW.kp.block i hi hn)⟩
      · have hl' : locB (was s k) = false := by simpa using hl
        refine (upd_boxes W p r s k 29 #[.pointer (some ⟨b1, 0, none⟩), .pointer (some ⟨b2, 0, none⟩), .pointer (some ⟨b3, 0, none⟩), .pointer (some ⟨b4, 0, none⟩)] (was s k) [bw] (fun w' => Bx1 w' bw (.slice ao xs.length cp) 32 ) hW.ar h.n ht hk (by simpa using nep) (by simpa using ner) ?_ (fun _ _ => rfl) ?_).mono ?_
        · intro w2 w3 a1 k3
          exact a1.keep k3 (by simpa using Ne.symm ner)
        · intro w1 k1
          have hpn : ∀ b, w.heap.size ≤ b → b ∉ [p] := fun b hb => by simp; omega
          refine (cl_no (u := .slice ao xs.length cp) hw0.1 (by omega) hl' (h1.keep k1 (hpn _ g1)) (h2.keep k1 (hpn _ g2)) (hbxW.keep k1 (by simpa using Ne.symm nep))).mono ?_
          rintro e w' ⟨he, a1, a2⟩
          exact ⟨he, a1, a2⟩
        · rintro e w' ⟨rfl, a1, a2, a3⟩
          refine ⟨rfl, ⟨by rw [shS, shY, if_neg hl]; exact a1, hW.kp.trans (a2.mono (by simp)), ⟨_, a3, by rw [shX, if_neg hl]; exact hqW.keep a2 (fun b hb hb' => by have := hbq _ hb; simp at hb'; omega)⟩, h.lt, shS_ok hc0 hc1 h.ok k, by rw [shS, upd_len]; exact h.n⟩⟩
    · have hk' : inB s k = false := by simpa using hk
      have hw0 := was_out hk'
      refine (upd_no W p r s k _ _ _ hW.ar h.n hk').mono ?_
      rintro e w' ⟨rfl, rfl⟩
      refine ⟨by rw [hw0], ?_⟩
      rw [shS, upd_out hk', shX, hw0, if_neg (by simp [locB_zero_no])]
      exact hW
  have hk3 : Kp [] w (((w.alloc (.cells #[.int .i64 k] 3)).alloc (.cells #[.int .u8 c] 5)).alloc (.cells #[.pointer (some ⟨bw, 0, none⟩)] 34)) := (((Kp.refl _ _).alloc _).alloc _).alloc _
  have c0 := (hbx.keep hk3 (by simp)).cell
  have X5 : Bx1 (((w.alloc (.cells #[.int .i64 k] 3)).alloc (.cells #[.int .u8 c] 5)).alloc (.cells #[.pointer (some ⟨bw, 0, none⟩)] 34)) w.heap.size (.int .i64 k) 3 := ((Kp.refl [] _).alloc _).row (by simp) (((Kp.refl [] _).alloc _).row (by simp) (heap_alloc_new w _))
  have X6 : Bx1 (((w.alloc (.cells #[.int .i64 k] 3)).alloc (.cells #[.int .u8 c] 5)).alloc (.cells #[.pointer (some ⟨bw, 0, none⟩)] 34)) (w.heap.size + 1) (.int .u8 c) 5 := ((Kp.refl [] _).alloc _).row (by simp) (by have := heap_alloc_new (w.alloc (.cells #[.int .i64 k] 3)) (.cells #[.int .u8 c] 5); rw [World.size_alloc] at this; exact this)
  have X7 : Bx1 (((w.alloc (.cells #[.int .i64 k] 3)).alloc (.cells #[.int .u8 c] 5)).alloc (.cells #[.pointer (some ⟨bw, 0, none⟩)] 34)) (w.heap.size + 1 + 1) (.pointer (some ⟨bw, 0, none⟩)) 34 := by
    have := heap_alloc_new ((w.alloc (.cells #[.int .i64 k] 3)).alloc (.cells #[.int .u8 c] 5)) (.cells #[.pointer (some ⟨bw, 0, none⟩)] 34)
    rw [World.size_alloc, World.size_alloc] at this
    exact this
  have hz3 : (((w.alloc (.cells #[.int .i64 k] 3)).alloc (.cells #[.int .u8 c] 5)).alloc (.cells #[.pointer (some ⟨bw, 0, none⟩)] 34)).heap.size = w.heap.size + 3 := by simp
  have hsz : bw < w.heap.size := by omega
  clear h hbx hq hbq hpq hrq nep ner hlt hwz
  go_enter Try.func19, Try.ntmps19
  go_upto_region 1 with (fail)
  generalize (((w.alloc (.cells #[.int .i64 k] 3)).alloc (.cells #[.int .u8 c] 5)).alloc (.cells #[.pointer (some ⟨bw, 0, none⟩)] 34)) = w3 at *
  have Z3 := Lib.hid hz3
  have F3 := Lib.hid (And.intro hk3 (And.intro X5 (And.intro X6 X7)))
  have c5 := X5.cell
  have c7 := X7.cell
  clear hk3 X5 X6 X7 hz3
  go_upto_region 2 with (fail)
  have ka : Kp [] w3 (w3.alloc (.cells #[.slice ao xs.length cp] 32)) := (Kp.refl _ _).alloc _
  have HU4 := Lib.hid (HU.out _ (F3.out.1.trans ka) w3.heap.size (w.heap.size + 1 + 1) w.heap.size (w.heap.size + 1) (by have := Z3.out; omega) (by omega) (by omega) (by omega) (heap_alloc_new w3 _) (F3.out.2.2.2.keep ka (by simp)) (F3.out.2.1.keep ka (by simp)) (F3.out.2.2.1.keep ka (by simp)))
  have d5 := (F3.out.2.1.keep ka (by simp)).cell
  generalize hw3 : w3.heap.size = z3 at *
  generalize w3.alloc (.cells #[.slice ao xs.length cp] 32) = w4 at *
  clear hw3 ka F3 Z3 HU c0 c5 c7
  go_wp2_with fail
  refine HU4.out.mono ?_
  rintro e w5 ⟨rfl, h5⟩
  have H5 := Lib.hid h5
  clear h5 HU4 d5
  go_wp2
  go_end0
  exact ⟨rfl, H5.out⟩

/-- What look makes: the header is read, then of each reference in order the header there is shared. -/
def stepL (c at_ : Int) (i : Nat) (y : St × List Int) : St × List Int :=
  let v := was y.1 (at_ + 1 + i)
  let s1 := upd y.1 (at_ + 1 + i) v
  if v = 0 then (s1, y.2) else (shS s1 v c, shX s1 y.2 v)
def lookL (c at_ : Int) : Nat → St × List Int → St × List Int
  | 0, y => y
  | n + 1, y => stepL c at_ n (lookL c at_ n y)
def rdS (s : St) (k : Int) : St := upd s k (was s k)
def lookS (c at_ : Int) (y : St × List Int) : St × List Int := lookL c at_ (nref (was y.1 at_)).toNat (rdS y.1 at_, y.2)

theorem PQ.read (h : PQ base p r bw s xs w) {k : Int} (ha : Ar w' p r (rdS s k)) (hk : Kp [p, r] w w') : PQ base p r bw (rdS s k) xs w' := by
  obtain ⟨v, h1, h2⟩ := h.q
  obtain ⟨n1, n2⟩ := h.ne
  refine ⟨ha, h.kp.trans (hk.mono (by simp)), ⟨v, h1.keep hk (by simp [Ne.symm n1, Ne.symm n2]), h2.keep hk (fun b hb hb' => by have := (h2.block b hb).1; have := h.lt; simp at hb'; omega)⟩, h.lt, fun j => ?_, by rw [rdS, upd_len]; exact h.n⟩
  rw [rdS, was_upd]
  split
  · exact h.ok k
  · exact h.ok j
theorem rdS_t (s : St) (k : Int) : (rdS s k).t ≤ s.t + 1 := upd_t _ _ _
theorem shS_t (s : St) (k c : Int) : (shS s k c).t ≤ s.t + 1 := upd_t _ _ _
theorem shX_len (s : St) (xs : List Int) (k : Int) : (shX s xs k).length ≤ xs.length + 1 := by unfold shX; split <;> simp
theorem stepL_t (c at_ : Int) (i : Nat) (y : St × List Int) : (stepL c at_ i y).1.t ≤ y.1.t + 2 ∧ (stepL c at_ i y).2.length ≤ y.2.length + 1 := by
  unfold stepL
  have h1 := upd_t y.1 (at_ + 1 + i) (was y.1 (at_ + 1 + i))
  simp only
  split
  · exact ⟨by simp only; omega, by simp⟩
  · have := shS_t (upd y.1 (at_ + 1 + i) (was y.1 (at_ + 1 + i))) (was y.1 (at_ + 1 + i)) c
    exact ⟨by simp only; omega, shX_len _ _ _⟩
theorem lookL_t (c at_ : Int) (n : Nat) (y : St × List Int) : (lookL c at_ n y).1.t ≤ y.1.t + 2 * n ∧ (lookL c at_ n y).2.length ≤ y.2.length + n := by
  induction n with
  | zero => simp [lookL]
  | succ n ih =>
    obtain ⟨a1, a2⟩ := stepL_t c at_ n (lookL c at_ n y)
    obtain ⟨a3, a4⟩ := ih
    simp only [lookL]
    exact ⟨by omega, by omega⟩

set_option maxHeartbeats 1000000 in
theorem look_any (h : PQ base p r bw s xs w) (ht : s.t ≤ 900000) (hx : xs.length ≤ 90000) (k c : Int) (hk0 : -100000 ≤ k) (hk1 : k ≤ 100000) (hc0 : 0 ≤ c) (hc1 : c ≤ 1) :
    Calls Try.prog 20 #[.iface 27 (.pointer (some ⟨p, 0, none⟩)), .int .i64 k, .int .u8 c, .pointer (some ⟨bw, 0, none⟩)] w fun e w' => e = .returned (.tuple #[]) ∧ PQ base p r bw (lookS c k (s, xs)).1 (lookS c k (s, xs)).2 w' := by
  have hw0 := h.ok k
  obtain ⟨k', c', o', s', n', g', m', _, hT⟩ := take_ref (was s k) hw0.1 (by omega)
  have HT := Lib.hid hT
  have hN := nref_bounds (was s k)
  have HR : Hid (Calls Try.prog 16 #[.pointer (some ⟨p, 0, none⟩), .int .i64 k] w fun e w'' => e = .returned (.int .u64 (was s k)) ∧ PQ base p r bw (rdS s k) xs w'') :=
    Lib.hid ((read_any w p r s k h.ar h.n (by omega)).mono fun e w'' ⟨h1, h2, h3⟩ => ⟨h1, h.read h2 h3⟩)
  obtain ⟨N, hNN⟩ : ∃ N : Nat, (nref (was s k)).toNat = N := ⟨_, rfl⟩
  have hN2 : nref (was s k) = N := by omega
  have hNle : N ≤ 127 := by omega
  have ht0 := rdS_t s k
  unfold lookS
  rw [hNN]
  rw [hN2] at HT
  simp only
  have HS : Hid (∀ i, i < N → (lookL c k i (rdS s k, xs)).1.t ≤ 950000 ∧ (lookL c k i (rdS s k, xs)).2.length ≤ 91000) := Lib.hid fun i hi => by
    have := lookL_t c k i (rdS s k, xs)
    simp only at this
    omega
  have HH := Lib.hid h
  clear hT hN hN2 hNN hw0 h ht hx ht0
  go_enter Try.func20, Try.ntmps20
  go_wp2_with fail
  refine HR.out.mono ?_
  rintro e w1 ⟨rfl, h1⟩
  have H1 := Lib.hid h1
  clear h1
  go_wp2_with fail
  refine (HT.out _).mono ?_
  rintro e w2 ⟨rfl, hk⟩
  have H2 := Lib.hid ((H1.out.on hk).on ((Kp.refl [] w2).alloc (.cells (hc7 k' c' g' m' o' N s') 46)))
  clear hk H1
  go_wp2_with fail
  go_loopg [22] N (fun g v wr => ∃ i : Nat, i + g = N ∧ v = .int .i64 i ∧ Hid (PQ base p r bw (lookL c k i (rdS s k, xs)).1 (lookL c k i (rdS s k, xs)).2 wr))
  case atStart => exact ⟨0, by omega, rfl, H2⟩
  case round =>
    obtain ⟨i, hi, rfl, HP⟩ := hrel
    by_cases hlt : i < N
    · obtain ⟨hst, hsl⟩ := HS.out i hlt
      have hnx : lookL c k (i + 1) (rdS s k, xs) = stepL c k i (lookL c k i (rdS s k, xs)) := rfl
      have HNX := Lib.hid hnx
      have HST := Lib.hid (And.intro hst hsl)
      clear hnx hst hsl
      generalize hy : lookL c k i (rdS s k, xs) = y at *
      obtain ⟨s1, xs1⟩ := y
      simp only at HP HST
      have hv0 := HP.out.ok (k + 1 + i)
      obtain ⟨v, hv⟩ : ∃ v, was s1 (k + 1 + i) = v := ⟨_, rfl⟩
      have HR1 : Hid (Calls Try.prog 16 #[.pointer (some ⟨p, 0, none⟩), .int .i64 (k + 1 + i)] wr fun e w'' => e = .returned (.int .u64 v) ∧ PQ base p r bw (upd s1 (k + 1 + i) v) xs1 w'') :=
        Lib.hid ((read_any wr p r s1 (k + 1 + i) HP.out.ar HP.out.n (by have := HST.out.1; omega)).mono fun e w'' ⟨h1, h2, h3⟩ => ⟨by rw [h1, hv], by rw [← hv]; exact HP.out.read h2 h3⟩)
      have hw := IntWalk.i64_in v (by rw [← hv]; omega)
      have hsp : stepL c k i (s1, xs1) = if v = 0 then (upd s1 (k + 1 + i) v, xs1) else (shS (upd s1 (k + 1 + i) v) v c, shX (upd s1 (k + 1 + i) v) xs1 v) := by
        simp only [stepL, hv]
      rw [hsp] at HNX
      rw [hv] at hv0
      have HT1 := upd_t s1 (k + 1 + i) v
      have HT2 : Hid ((upd s1 (k + 1 + i) v).t ≤ 1000000) := Lib.hid (by have := HST.out.1; omega)
      clear HT1 hsp hv hy
      generalize upd s1 (k + 1 + i) v = s2 at *
      by_cases hz : v = 0
      · have HV := Lib.hid hz
        have hzb : (v != 0) = false := by simp [hz]
        rw [if_pos hz] at HNX
        clear hz hw hv0
        go_wp2_with fail
        refine HR1.out.mono ?_
        rintro e w3 ⟨rfl, h3⟩
        have H3 := Lib.hid h3
        clear h3 HR1
        go_wp2_with fail
        go_roundg (N - (i + 1))
        exact ⟨i + 1, by omega, rfl, by rw [HNX.out]; exact H3⟩
        omega
      · have hzb : (v != 0) = true := by simp [hz]
        rw [if_neg hz] at HNX
        go_wp2_with fail
        refine HR1.out.mono ?_
        rintro e w3 ⟨rfl, h3⟩
        have HS3 : Hid (Calls Try.prog 19 #[.iface 27 (.pointer (some ⟨p, 0, none⟩)), .int .i64 v, .int .u8 c, .pointer (some ⟨bw, 0, none⟩)] w3 fun e w' => e = .returned (.tuple #[]) ∧ PQ base p r bw (shS s2 v c) (shX s2 xs1 v) w') :=
          Lib.hid (share_any h3 HT2.out (by have := HST.out.2; omega) v c hc0 hc1)
        clear h3 HR1
        go_wp2_with fail
        refine HS3.out.mono ?_
        rintro e w4 ⟨rfl, h4⟩
        have H4 := Lib.hid h4
        clear h4 HS3
        go_wp2_with fail
        go_roundg (N - (i + 1))
        exact ⟨i + 1, by omega, rfl, by rw [HNX.out]; exact H4⟩
        omega
    · obtain rfl : i = N := by omega
      go_wp2_with fail
      go_end0
      exact ⟨rfl, HP.out⟩
end

end Go.Proofs.Ytdnlddjgjceogaa
