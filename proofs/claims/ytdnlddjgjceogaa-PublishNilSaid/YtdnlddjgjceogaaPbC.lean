/- Package publish, its walks, on: Publish over an arena. Conditions: as each theorem states them. -/
import Derived.Test.YtdnlddjgjceogaaPbB
namespace Go.Proofs.Ytdnlddjgjceogaa
set_option linter.unusedVariables false
set_option linter.unusedSimpArgs false
set_option maxRecDepth 100000
open Go.RowKit

/-- One round of publishing: the first place is looked into, and taken off. -/
def rndP (c : Int) (y : St × List Int) : St × List Int :=
  match y.2 with
  | [] => y
  | x :: _ => ((lookS c x y).1, (lookS c x y).2.tail)
def itrP (c : Int) : Nat → St × List Int → St × List Int
  | 0, y => y
  | n + 1, y => rndP c (itrP c n y)

/-- How many Local headers there are. -/
def cntL (s : St) : Nat := s.ws.countP locB
theorem count_set (l : List Int) (i : Nat) (h : i < l.length) (y : Int) : (l.set i y).countP locB + (if locB (l.getD i 0) = true then 1 else 0) = l.countP locB + (if locB y = true then 1 else 0) := by
  induction l generalizing i with
  | nil => simp at h
  | cons a l ih =>
    cases i with
    | zero => simp only [List.set_cons_zero, List.countP_cons, List.getD_cons_zero]; omega
    | succ i =>
      have := ih i (by simpa using h)
      simp only [List.set_cons_succ, List.countP_cons, List.getD_cons_succ]
      omega
theorem locB_pub {x c : Int} (h : locB x = true) (h0 : 0 ≤ c) (h1 : c ≤ 1) : locB (pubI x c) = false := by
  have e := parts_of_word 3 c (x / 32 % 64) (x / 2048 % 128) (x / 262144 % 128) false false (by omega) h0 (by omega) (by omega) (by omega) (locB_may h h0 h1)
  have e1 : pubI x c % 4 = 3 := e.1
  simp [locB, e1]
theorem cnt_upd (s : St) (k : Int) : cntL (upd s k (was s k)) = cntL s := by
  by_cases hk : inB s k = true
  · have hk2 := inB_iff.1 hk
    rw [upd_in hk, was_in hk]
    have := count_set s.ws k.toNat (by omega) (s.ws.getD k.toNat 0)
    simp only [cntL]
    omega
  · rw [upd_out (by simpa using hk)]
theorem cnt_share (s : St) (xs : List Int) (k : Int) {c : Int} (h0 : 0 ≤ c) (h1 : c ≤ 1) : cntL (shS s k c) + (shX s xs k).length = cntL s + xs.length := by
  unfold shS shX shY
  by_cases hl : locB (was s k) = true
  · rw [if_pos hl, if_pos hl]
    have hk : inB s k = true := by
      cases hk : inB s k
      · rw [was_out hk, locB_zero_no] at hl; cases hl
      · rfl
    have hk2 := inB_iff.1 hk
    have := count_set s.ws k.toNat (by omega) (pubI (was s k) c)
    rw [locB_pub hl h0 h1] at this
    rw [was_in hk] at hl this ⊢
    rw [if_pos hl] at this
    rw [upd_in hk]
    simp only [cntL, List.length_append, List.length_singleton, Bool.false_eq_true, if_false] at this ⊢
    omega
  · rw [if_neg hl, if_neg hl, cnt_upd]
def msr (y : St × List Int) : Nat := cntL y.1 + y.2.length
theorem msr_step (c at_ : Int) (i : Nat) (y : St × List Int) (h0 : 0 ≤ c) (h1 : c ≤ 1) : msr (stepL c at_ i y) = msr y := by
  unfold stepL msr
  simp only
  split
  · simp only [cnt_upd]
  · simp only
    rw [cnt_share _ _ _ h0 h1, cnt_upd]
theorem msr_look (c at_ : Int) (n : Nat) (y : St × List Int) (h0 : 0 ≤ c) (h1 : c ≤ 1) : msr (lookL c at_ n y) = msr y := by
  induction n with
  | zero => rfl
  | succ n ih => rw [lookL, msr_step _ _ _ _ h0 h1, ih]
theorem msr_lookS (c at_ : Int) (y : St × List Int) (h0 : 0 ≤ c) (h1 : c ≤ 1) : msr (lookS c at_ y) = msr y := by
  rw [lookS, msr_look _ _ _ _ h0 h1]
  simp only [msr, rdS, cnt_upd]
theorem step_grows (c at_ : Int) (i : Nat) (y : St × List Int) : ∃ zs, (stepL c at_ i y).2 = y.2 ++ zs := by
  unfold stepL
  simp only
  split
  · exact ⟨[], by simp⟩
  · unfold shX
    split
    · exact ⟨_, rfl⟩
    · exact ⟨[], by simp⟩
theorem look_grows (c at_ : Int) (n : Nat) (y : St × List Int) : ∃ zs, (lookL c at_ n y).2 = y.2 ++ zs := by
  induction n with
  | zero => exact ⟨[], by simp [lookL]⟩
  | succ n ih =>
    obtain ⟨zs, hz⟩ := ih
    obtain ⟨z2, h2⟩ := step_grows c at_ n (lookL c at_ n y)
    exact ⟨zs ++ z2, by rw [lookL, h2, hz, List.append_assoc]⟩
theorem lookS_grows (c at_ : Int) (s : St) (xs : List Int) : ∃ zs, (lookS c at_ (s, xs)).2 = xs ++ zs := look_grows _ _ _ _
theorem lookS_t (c at_ : Int) (y : St × List Int) : (lookS c at_ y).1.t ≤ y.1.t + 255 := by
  have := (lookL_t c at_ (nref (was y.1 at_)).toNat (rdS y.1 at_, y.2)).1
  have h2 := rdS_t y.1 at_
  have h3 := nref_bounds (was y.1 at_)
  simp only at this
  unfold lookS
  omega

/-- All places of a worklist are there. -/
def Thr (y : St × List Int) : Prop := ∀ x ∈ y.2, inB y.1 x = true
theorem shS_in (s : St) (k c j : Int) : inB (shS s k c) j = inB s j := inB_upd _ _ _ _
theorem thr_share {s : St} {xs : List Int} (h : Thr (s, xs)) (k c : Int) : Thr (shS s k c, shX s xs k) := by
  intro x hx
  simp only at hx ⊢
  rw [shS_in]
  unfold shX at hx
  split at hx
  · rename_i hl
    rcases List.mem_append.1 hx with hx | hx
    · exact h x hx
    · have : x = k := by simpa using hx
      subst this
      cases hk : inB s x
      · rw [was_out hk, locB_zero_no] at hl; cases hl
      · rfl
  · exact h x hx
theorem thr_read {s : St} {xs : List Int} (h : Thr (s, xs)) (k : Int) : Thr (rdS s k, xs) := fun x hx => by
  simp only [rdS, inB_upd]
  exact h x hx
theorem thr_step {y : St × List Int} (h : Thr y) (c at_ : Int) (i : Nat) : Thr (stepL c at_ i y) := by
  unfold stepL
  simp only
  split
  · exact thr_read h _
  · exact thr_share (thr_read h _) _ _
theorem thr_look {y : St × List Int} (h : Thr y) (c at_ : Int) (n : Nat) : Thr (lookL c at_ n y) := by
  induction n with
  | zero => exact h
  | succ n ih => exact thr_step ih _ _ _
theorem thr_lookS {y : St × List Int} (h : Thr y) (c at_ : Int) : Thr (lookS c at_ y) := thr_look (thr_read h _) _ _ _

theorem cut_first (b off n cap : Nat) (w : World) : (Instr.sliceAt 32 (.slice (some ⟨b, off, none⟩) (n + 1) cap) (some (.int .i64 1)) none none).run Try.prog w = .ok (.slice (some (if cap = 1 then ⟨b, off, none⟩ else ⟨b, off + 1, none⟩)) n (cap - 1)) w := by
  rw [run_sliceAt_slice (P := Try.prog) w 32 _ _ _ _ (by kernel_rfl), run_slice_l (P := Try.prog) w 32 (some ⟨b, off, none⟩) (n + 1) cap (by kernel_rfl) .i64 1 (by decide) (by omega)]
  have hs : (sizeOf (Try.prog.elem 32)).run Try.prog w = .ok 1 w := by
    rw [show Try.prog.elem 32 = 3 from by kernel_rfl]
    obtain ⟨i, hi, _, hz, _⟩ := info_parts qint_info
    simp [sizeOf, typeInfo, hi, hz]
  rw [hs]
  simp only [Result.andThen, sliced]
  by_cases hc : cap = 1
  · subst hc; simp
  · simp [hc, Addr.add]

section
variable {base w w' : World} {p r bw : Nat} {s : St} {xs : List Int}
set_option maxHeartbeats 1000000 in
theorem publish_any (h : PQ base p r bw s [] w) (ht : s.t + 255 * (cntL s + 2) ≤ 800000) (hb : cntL s ≤ 80000) (k c : Int) (hc0 : 0 ≤ c) (hc1 : c ≤ 1) :
    Calls Try.prog 10 #[.iface 27 (.pointer (some ⟨p, 0, none⟩)), .int .i64 k, .int .u8 c, .pointer (some ⟨bw, 0, none⟩)] w fun e w' => e = .returned (.tuple #[]) ∧ ∃ n s', itrP c n (shS s k c, shX s [] k) = (s', []) ∧ s'.t ≤ 900000 ∧ PQ base p r bw s' [] w' := by
  have HS := Lib.hid (share_any h (by omega) (by simp) k c hc0 hc1)
  have hm0 := cnt_share s [] k hc0 hc1
  have ht0 := shS_t s k c
  have hth : Thr (shS s k c, shX s [] k) := thr_share (fun x hx => by simp at hx) k c
  obtain ⟨M, hM⟩ : ∃ M, cntL s = M := ⟨_, rfl⟩
  rw [hM] at ht hb hm0
  have HM : Hid (msr (shS s k c, shX s [] k) = M ∧ (shS s k c).t + 255 * (M + 1) ≤ 800000 ∧ M ≤ 80000) := Lib.hid ⟨by simp [msr]; simpa using hm0, by omega, hb⟩
  have HTH := Lib.hid hth
  clear hm0 ht0 hM hth hb
  generalize hy0 : (shS s k c, shX s [] k) = y0 at *
  have e1 : shS s k c = y0.1 := by rw [← hy0]
  have e2 : shX s [] k = y0.2 := by rw [← hy0]
  rw [e1, e2] at HS
  rw [e1] at HM
  clear h ht hy0 e1 e2
  go_enter Try.func10, Try.ntmps10
  go_wp2_with fail
  refine HS.out.mono ?_
  rintro e w1 ⟨rfl, h1⟩
  have H1 := Lib.hid h1
  clear h1 HS
  have c1 : ∀ (q : World) (m : Nat) (v : Value), Bx1 q m v 32 → q.cell? ⟨m, 0, none⟩ = some v := fun _ _ _ h => h.cell
  go_wp2_with fail
  go_loopg [23] M (fun g _ wr => ∃ n, ∃ y : St × List Int, itrP c n y0 = y ∧ msr y = g ∧ Hid (Thr y ∧ y.1.t + 255 * (g + 1) ≤ 800000 ∧ g ≤ 80000 ∧ PQ base p r bw y.1 y.2 wr))
  case atStart => exact ⟨0, y0, rfl, HM.out.1, Lib.hid ⟨HTH.out, HM.out.2.1, HM.out.2.2, H1.out⟩⟩
  case round =>
    obtain ⟨n, ⟨s1, xs1⟩, hn, hg, HP⟩ := hrel
    obtain ⟨v, hbx, hq⟩ := HP.out.2.2.2.q
    simp only at hq
    rcases xs1 with _ | ⟨x, xs1⟩
    · obtain ⟨ao, cp, rfl⟩ := hq.formN (n := 0) rfl
      have cb := hbx.cell
      go_wp2_with fail
      go_end0
      exact ⟨rfl, n, s1, hn, by have h5 := HP.out.2.1; omega, HP.out.2.2.2⟩
    · obtain ⟨b, off, cap, rfl, cx, _⟩ := hq.pop
      have cb := hbx.cell
      have hx := inB_iff.1 (HP.out.1 x (by simp))
      have hxn := HP.out.2.2.2.n
      simp only at hx hxn
      have hms : msr (s1, x :: xs1) = cntL s1 + (xs1.length + 1) := rfl
      have HL := Lib.hid (look_any HP.out.2.2.2 (by have h5 := HP.out.2.1; simp only at h5 ⊢; omega) (by have := HP.out.2.2.1; simp only [List.length_cons]; omega) x c (by omega) (by omega) hc0 hc1)
      have hgr := lookS_grows c x s1 (x :: xs1)
      have hnx : itrP c (n + 1) y0 = ((lookS c x (s1, x :: xs1)).1, (lookS c x (s1, x :: xs1)).2.tail) := by rw [itrP, hn, rndP]
      have hm2 := msr_lookS c x (s1, x :: xs1) hc0 hc1
      have hth2 := thr_lookS HP.out.1 c x
      have ht2 := lookS_t c x (s1, x :: xs1)
      have HPt := HP.out.2.1
      have HPg := HP.out.2.2.1
      simp only at ht2 HPt
      clear hx hxn hq hbx HP
      generalize lookS c x (s1, x :: xs1) = y2 at *
      obtain ⟨s2, ys2⟩ := y2
      obtain ⟨zs, hz⟩ := hgr
      simp only at hz
      subst hz
      simp only [List.cons_append, List.tail_cons] at hnx hth2 ht2 HL hm2
      have F : Hid (∀ wq, PQ base p r bw s2 (xs1 ++ zs) wq → ∃ n, ∃ y : St × List Int, itrP c n y0 = y ∧ msr y = gk - 1 ∧ Hid (Thr y ∧ y.1.t + 255 * (gk - 1 + 1) ≤ 800000 ∧ gk - 1 ≤ 80000 ∧ PQ base p r bw y.1 y.2 wq)) := by
        refine Lib.hid fun wq hP => ⟨n + 1, (s2, xs1 ++ zs), hnx, ?_, Lib.hid ⟨fun z hz => hth2 z (by simp only at hz ⊢; exact List.mem_cons_of_mem _ hz), ?_, by omega, hP⟩⟩
        · rw [hg] at hm2
          simp only [msr, List.length_cons] at hm2 ⊢
          omega
        · simp only
          omega
      have hg1 : gk - 1 < gk := by rw [← hg, hms]; omega
      have HG1 := Lib.hid hg1
      clear hnx hm2 hth2 ht2 HPt hg hg1 hms HPg hn
      go_wp2_with fail
      refine HL.out.mono ?_
      rintro e w3 ⟨rfl, h3⟩
      obtain ⟨v3, hbx3, hq3⟩ := h3.q
      obtain ⟨b3, off3, cap3, rfl, cx3, hq4⟩ := hq3.pop
      have cb3 := hbx3.cell
      have fb3 := hbx3.free
      have hsl := cut_first b3 off3 (xs1 ++ zs).length cap3
      obtain ⟨nep, ner⟩ := h3.ne
      have H4 : Hid (∀ a, a = (if cap3 = 1 then (⟨b3, off3, none⟩ : Addr) else ⟨b3, off3 + 1, none⟩) → PQ base p r bw s2 (xs1 ++ zs) (w3.setCell ⟨bw, 0, none⟩ (.slice (some a) (xs1 ++ zs).length (cap3 - 1)))) := by
        refine Lib.hid fun a ha => ?_
        subst ha
        have k : Kp [bw] w3 (w3.setCell ⟨bw, 0, none⟩ (.slice (some (if cap3 = 1 then ⟨b3, off3, none⟩ else ⟨b3, off3 + 1, none⟩)) (xs1 ++ zs).length (cap3 - 1))) := (Kp.refl _ _).setCell (.inl (by simp)) _
        refine ⟨h3.ar.keep k (by simpa using nep) (by simpa using ner), h3.kp.trans (k.mono (by simp)), ⟨_, hbx3.set _, hq4.keep k (fun b hb hb' => by have := (hq4.block b hb).1; have := h3.lt; simp at hb'; omega)⟩, h3.lt, h3.ok, h3.n⟩
      obtain ⟨a3, ha3⟩ : ∃ a : Addr, (if cap3 = 1 then (⟨b3, off3, none⟩ : Addr) else ⟨b3, off3 + 1, none⟩) = a := ⟨_, rfl⟩
      rw [ha3] at hsl
      have H5 := Lib.hid (H4.out a3 ha3.symm)
      clear H4 ha3 h3 hq3 hq4 hbx3 nep ner HL cx cb
      generalize (xs1 ++ zs).length = len3 at *
      go_wp2_with fail
      go_roundg (gk - 1)
      exact F.out _ H5.out
      exact HG1.out
end

end Go.Proofs.Ytdnlddjgjceogaa
