/- AgentCounts, walked: what follows a step, alone. Written by gen/ak_j.py. AgentCounts, walked: a turn. Written by gen/ak_k.py. AgentCounts, walked: its second loop as a whole; its third one. Written by gen/ak_l.py. AgentCounts, walked: its third loop; its end. Written by gen/ak_n.py. AgentCounts, its walk as a whole. Written by gen/ak_p.py. Conditions: as each theorem states them. -/
import Derived.Test.YtodcnhodbeakiaaAkFI
import Derived.Deep.RegionHeld3
import Derived.Deep.CutRange
import Derived.Deep.CutBlock
import Derived.IntWalk
namespace Go.Proofs.Ytodcnhodbeakiaa
set_option linter.unusedVariables false
set_option linter.unusedSimpArgs false
set_option maxRecDepth 100000
open Go.RowKit

theorem T181_eq (f : Nat → Value) : T181 f = ((List.range 181).map f).toArray := by kernel_rfl
theorem arr181 (t : Array Value) (h : t.size = 181) : t = T181 (fun j => t.getD j undef) := by
  rw [T181_eq]
  apply Array.ext
  · simp [h]
  · intro i h1 h2
    simp [Array.getD, h1]
def acR2 (f : Func) : Code := codeR (codeR (blockOf (codeL (codeR (acX2 f)))))
/-- What is kept of the frame. -/
structure Fr2 (x : Nat → Value) (sm kk : Nat) (a : Act) : Prop where
  d : a.defers = []
  z : a.tmps.size = 181
  s0 : a.tmps.getD 0 undef = x 0
  s1 : a.tmps.getD 1 undef = x 1
  s5 : a.tmps.getD 5 undef = x 5
  s7 : a.tmps.getD 7 undef = x 7
  s8 : a.tmps.getD 8 undef = x 8
  s9 : a.tmps.getD 9 undef = .bool true
  s15 : a.tmps.getD 15 undef = .int .u64 sm
  s16 : a.tmps.getD 16 undef = x 16
  s17 : a.tmps.getD 17 undef = x 17
theorem Fr2.at {x : Nat → Value} {sm kk : Nat} {a : Act} (h : Fr2 x sm kk a) : a = ⟨T181 (fun j => a.tmps.getD j undef), []⟩ := by
  obtain ⟨t, d⟩ := a
  have hd := h.d
  have hz := h.z
  simp only at hd hz
  subst hd
  rw [← arr181 t hz]
/-- What the compare's region holds on to. -/
def H2 (be bl kk : Nat) (y : Int) (r : Nat) (pA rA : Nat) (w0 wx : World) : Prop := wx.cell? ⟨be, kk, none⟩ = some (.int .i64 y) ∧ wx.cell? ⟨bl, kk, none⟩ = some (.int .u8 r) ∧ Kp [pA, rA] w0 wx
theorem h2_keep {be bl kk : Nat} {y : Int} {r : Nat} {pA rA : Nat} {w0 wx wy : World} (h : H2 be bl kk y r pA rA w0 wx) (k : Kp [pA, rA] wx wy) (hn : be ≠ pA ∧ be ≠ rA ∧ bl ≠ pA ∧ bl ≠ rA) : H2 be bl kk y r pA rA w0 wy :=
  ⟨(World.cell?_of_block (a := ⟨be, kk, none⟩) (k.block be (World.block_lt_of_cell? _ _ h.1) (by simp [hn.1, hn.2.1]))).trans h.1, (World.cell?_of_block (a := ⟨bl, kk, none⟩) (k.block bl (World.block_lt_of_cell? _ _ h.2.1) (by simp [hn.2.2.1, hn.2.2.2]))).trans h.2.1, h.2.2.trans k⟩

section
variable {pA rA be bl M kk sm t cl : Nat} {l : Int} {x : Nat → Value} {wt : World} {cur : Array Value} {Q : Exit → Act → World → Prop}

set_option maxHeartbeats 8000000 in
theorem ac_lone2_pos {r : Nat} (hx5 : x 5 = .pointer (some ⟨pA, 0, none⟩)) (hx7 : x 7 = .slice (some ⟨be, 0, none⟩) M M) (hx15 : x 15 = .int .u64 sm) (hx16 : x 16 = .slice (some ⟨bl, 0, none⟩) M cl) (hx18 : x 18 = .int .i64 kk) (hx19 : x 19 = .int .i64 0)
    (hkk : kk < M) (hM : M ≤ 8) (hcl : M ≤ cl) (hsm : sm ≤ 1000) (ht : t ≤ 4000) (hr : r ≤ 254) (hrow : wt.heap[bl]? = some (.cells cur 5 (0, 0))) (hc : wt.cell? ⟨bl, kk, none⟩ = some (.int .u8 ((r + 1 : Nat)))) (hes : wt.cell? ⟨be, kk, none⟩ = some (.int .i64 (if r = 0 then 1 else 0))) (har : Ar wt pA rA ⟨[((sm + 1 : Nat) : Int)], t, l⟩) (hn : be ≠ pA ∧ be ≠ rA ∧ bl ≠ pA ∧ bl ≠ rA) (hb : bl ≠ be)
    (hQ : ∀ a' w', Fr2 x (sm + 1) kk a' → Ar w' pA rA ⟨[((sm + 1 : Nat) : Int)], t + 1, 0⟩ → Kp [pA, rA] (wt.setCell ⟨bl, kk, none⟩ (.int .u8 (r : Nat))) w' → Q .normal a' w') :
    (acR2 Try.f5).wp Try.prog Q ⟨T181 x, []⟩ wt := by
  have hrd := fun (w' : World) (ha : Ar w' pA rA ⟨[((sm + 1 : Nat) : Int)], t, l⟩) => read_any w' pA rA _ 0 ha (by show (1 : Nat) ≤ 4096; decide) (by show t ≤ 1000000; omega)
  have hw0 : ∀ t l, was ⟨[((sm + 1 : Nat) : Int)], t, l⟩ 0 = ((sm + 1 : Nat) : Int) := fun t l => rfl
  have hu0 : ∀ t l, upd ⟨[((sm + 1 : Nat) : Int)], t, l⟩ 0 ((sm + 1 : Nat) : Int) = ⟨[((sm + 1 : Nat) : Int)], t + 1, 0⟩ := fun t l => rfl
  simp only [hw0, hu0] at hrd
  have HRD := Lib.hid hrd
  clear hrd hw0 hu0
  have e1 : IntKind.u8.wrap (((r + 1 : Nat) : Int) - 1) = ((r : Nat) : Int) := by rw [show ((r + 1 : Nat) : Int) - 1 = (r : Int) from by omega]; simp [IntKind.wrap, IntKind.min, IntKind.max, IntKind.signed, IntKind.bits]; omega
  have e2 : IntKind.u64.wrap ((sm : Int) + 1) = ((sm + 1 : Nat) : Int) := by rw [IntWalk.u64_in _ (by omega)]; push_cast; rfl
  have f0 := free_of_row hrow kk
  have k1 : Kp [bl] wt (wt.setCell ⟨bl, kk, none⟩ (.int .u8 (r : Nat))) := (Kp.refl _ _).setCell (.inl (by simp)) _
  have hes1 : (wt.setCell ⟨bl, kk, none⟩ (.int .u8 (r : Nat))).cell? ⟨be, kk, none⟩ = _ := (World.cell?_of_block (a := ⟨be, kk, none⟩) (k1.block be (World.block_lt_of_cell? _ _ hes) (by simpa using hb.symm))).trans hes
  have hc1 : (wt.setCell ⟨bl, kk, none⟩ (.int .u8 (r : Nat))).cell? ⟨bl, kk, none⟩ = some (.int .u8 (r : Nat)) := by
    have h := heap_setCell_same wt bl kk _ _ (.int .u8 (r : Nat)) hrow
    rw [cell_of_row h kk]
    have hlt : kk < cur.size := by
      have h2 := cell_of_row hrow kk
      rw [hc] at h2
      exact (Array.getElem?_eq_some_iff.1 h2.symm).1
    simp [hlt]
  have ha1 : Ar (wt.setCell ⟨bl, kk, none⟩ (.int .u8 (r : Nat))) pA rA ⟨[((sm + 1 : Nat) : Int)], t, l⟩ := har.keep k1 (by simpa using hn.2.2.1.symm) (by simpa using hn.2.2.2.symm)
  obtain ⟨w1, hw1⟩ : ∃ w1, w1 = wt.setCell ⟨bl, kk, none⟩ (.int .u8 (r : Nat)) := ⟨_, rfl⟩
  rw [← hw1] at hes1 hc1 ha1 hQ
  have HA := Lib.hid ha1
  have HN := Lib.hid hn
  have HQ := Lib.hid hQ
  generalize hy : (if r = 0 then (1 : Int) else 0) = y at hes hes1
  have HY := Lib.hid hy
  have HS : Hid (H2 be bl kk y r pA rA w1 w1) := Lib.hid ⟨hes1, hc1, Kp.refl _ _⟩
  clear hQ hn har ha1 hy hes hes1 hc1
  simp only [acR2, acX2, bodyOf, Try.f5, codeL, codeR, blockOf, loopOf, Option.getD_some, T181]
  simp only [hx5, hx7, hx15, hx16, hx18, hx19]
  go_upto_region 28 with (fail)
  try rw [← hw1]
  clear hw1 hc hrow f0 k1
  have hs1 : ((sm + 1 : Nat) : Int) = (sm : Int) + 1 := by push_cast; rfl
  have hcase : (y = 1 ∧ r = 0) ∨ (y = 0 ∧ 0 < r) := by
    rw [← HY.out]
    by_cases h : r = 0
    · left; rw [if_pos h]; exact ⟨rfl, h⟩
    · right; rw [if_neg h]; exact ⟨rfl, by omega⟩
  clear HY e1 e2
  rcases hcase with ⟨rfl, rfl⟩ | ⟨rfl, hpos⟩
  · go_region_held3 (fun wx => wx.cell? ⟨be, kk, none⟩ = some (.int .i64 1) ∧ wx.cell? ⟨bl, kk, none⟩ = some (.int .u8 0) ∧ Kp [pA, rA] w1 wx)
      (first
        | exact h2_keep HS.out ((Kp.refl _ _).drew) HN.out
        | exact h2_keep ‹H2 be bl kk 1 0 pA rA w1 _› hk8 HN.out)
      (first
      | (go_at_call 23; refine (HRD.out _ (HA.out.keep (S := []) (w' := _) ?_ (by simp) (by simp))).mono ?_
         · exact ⟨rfl, rfl, rfl, Nat.le_refl _, fun _ _ _ => rfl⟩
         rintro e w6 ⟨he, ha6, hk8⟩
         rw [hs1] at he
         subst he
         have HA6 := Lib.hid ha6
         have K6 : Hid (Kp [pA, rA] w1 w6) := Lib.hid (by refine Kp.trans ?_ hk8; exact ⟨rfl, rfl, rfl, Nat.le_refl _, fun _ _ _ => rfl⟩)
         clear ha6))
    rename_i hHeld
    clear hHeld
    go_wp2_with fail
    exact HQ.out _ _ ⟨rfl, rfl, rfl, rfl, hx5.symm, hx7.symm, rfl, rfl, congrArg (Value.int .u64) hs1.symm, hx16.symm, rfl⟩ HA6.out K6.out
  · have hrb : ((r : Int) == 0) = false := by simp; omega
    go_region_held3 (fun wx => wx.cell? ⟨be, kk, none⟩ = some (.int .i64 0) ∧ wx.cell? ⟨bl, kk, none⟩ = some (.int .u8 r) ∧ Kp [pA, rA] w1 wx)
      (first
        | exact h2_keep HS.out ((Kp.refl _ _).drew) HN.out
        | exact h2_keep ‹H2 be bl kk 0 r pA rA w1 _› hk8 HN.out)
      (first
      | (go_at_call 23; refine (HRD.out _ (HA.out.keep (S := []) (w' := _) ?_ (by simp) (by simp))).mono ?_
         · exact ⟨rfl, rfl, rfl, Nat.le_refl _, fun _ _ _ => rfl⟩
         rintro e w6 ⟨he, ha6, hk8⟩
         rw [hs1] at he
         subst he
         have HA6 := Lib.hid ha6
         have K6 : Hid (Kp [pA, rA] w1 w6) := Lib.hid (by refine Kp.trans ?_ hk8; exact ⟨rfl, rfl, rfl, Nat.le_refl _, fun _ _ _ => rfl⟩)
         clear ha6))
    rename_i hHeld
    clear hHeld
    go_wp2_with fail
    exact HQ.out _ _ ⟨rfl, rfl, rfl, rfl, hx5.symm, hx7.symm, rfl, rfl, congrArg (Value.int .u64) hs1.symm, hx16.symm, rfl⟩ HA6.out K6.out

set_option maxHeartbeats 8000000 in
theorem ac_lone2_zero {r : Nat} (hx5 : x 5 = .pointer (some ⟨pA, 0, none⟩)) (hx7 : x 7 = .slice (some ⟨be, 0, none⟩) M M) (hx15 : x 15 = .int .u64 sm) (hx16 : x 16 = .slice (some ⟨bl, 0, none⟩) M cl) (hx18 : x 18 = .int .i64 kk) (hx19 : x 19 = .int .i64 6)
    (hkk : kk < M) (hM : M ≤ 8) (hcl : M ≤ cl) (hsm : sm ≤ 1000) (ht : t ≤ 4000) (hr : r ≤ 254) (hrow : wt.heap[bl]? = some (.cells cur 5 (0, 0))) (hc : wt.cell? ⟨bl, kk, none⟩ = some (.int .u8 ((0 : Nat)))) (hes : wt.cell? ⟨be, kk, none⟩ = some (.int .i64 (if r = 0 then 1 else 0))) (har : Ar wt pA rA ⟨[((sm : Nat) : Int)], t, l⟩) (hn : be ≠ pA ∧ be ≠ rA ∧ bl ≠ pA ∧ bl ≠ rA) (hb : bl ≠ be) (hr0 : r = 0)
    (hQ : ∀ a' w', Fr2 x (sm) kk a' → Ar w' pA rA ⟨[((sm : Nat) : Int)], t + 1, 0⟩ → Kp [pA, rA] wt w' → Q .normal a' w') :
    (acR2 Try.f5).wp Try.prog Q ⟨T181 x, []⟩ wt := by
  have hrd := fun (w' : World) (ha : Ar w' pA rA ⟨[((sm : Nat) : Int)], t, l⟩) => read_any w' pA rA _ 0 ha (by show (1 : Nat) ≤ 4096; decide) (by show t ≤ 1000000; omega)
  have hw0 : ∀ t l, was ⟨[((sm : Nat) : Int)], t, l⟩ 0 = ((sm : Nat) : Int) := fun t l => rfl
  have hu0 : ∀ t l, upd ⟨[((sm : Nat) : Int)], t, l⟩ 0 ((sm : Nat) : Int) = ⟨[((sm : Nat) : Int)], t + 1, 0⟩ := fun t l => rfl
  simp only [hw0, hu0] at hrd
  have HRD := Lib.hid hrd
  clear hrd hw0 hu0
  have ha1 := har
  have hes1 := hes
  have hc1 := hc
  have HA := Lib.hid ha1
  have HN := Lib.hid hn
  have HQ := Lib.hid hQ
  generalize hy : (if r = 0 then (1 : Int) else 0) = y at hes hes1
  have HY := Lib.hid hy
  have HS : Hid (H2 be bl kk y 0 pA rA wt wt) := Lib.hid ⟨hes1, hc1, Kp.refl _ _⟩
  clear hQ hn har ha1 hy hes hes1
  simp only [acR2, acX2, bodyOf, Try.f5, codeL, codeR, blockOf, loopOf, Option.getD_some, T181]
  simp only [hx5, hx7, hx15, hx16, hx18, hx19]
  go_upto_region 28 with (fail)
  have hy1 : y = 1 := by rw [← HY.out, if_pos hr0]
  clear HY
  subst hy1
  go_region_held3 (fun wx => wx.cell? ⟨be, kk, none⟩ = some (.int .i64 1) ∧ wx.cell? ⟨bl, kk, none⟩ = some (.int .u8 0) ∧ Kp [pA, rA] wt wx)
    (first
      | exact h2_keep HS.out ((Kp.refl _ _).drew) HN.out
      | exact h2_keep ‹H2 be bl kk 1 0 pA rA wt _› hk8 HN.out)
    (first
    | (go_at_call 23; refine (HRD.out _ (HA.out.keep (S := []) (w' := _) ?_ (by simp) (by simp))).mono ?_
       · exact ⟨rfl, rfl, rfl, Nat.le_refl _, fun _ _ _ => rfl⟩
       rintro e w6 ⟨he, ha6, hk8⟩
       skip
       subst he
       have HA6 := Lib.hid ha6
       have K6 : Hid (Kp [pA, rA] wt w6) := Lib.hid (by refine Kp.trans ?_ hk8; exact ⟨rfl, rfl, rfl, Nat.le_refl _, fun _ _ _ => rfl⟩)
       clear ha6))
  rename_i hHeld
  clear hHeld
  go_wp2_with fail
  exact HQ.out _ _ ⟨rfl, rfl, rfl, rfl, hx5.symm, hx7.symm, rfl, rfl, rfl, hx16.symm, rfl⟩ HA6.out K6.out
end
end Go.Proofs.Ytodcnhodbeakiaa

namespace Go.Proofs.Ytodcnhodbeakiaa
set_option linter.unusedVariables false
set_option linter.unusedSimpArgs false
set_option maxRecDepth 100000
open Go.Conc
open Go.ConcN (upd_ne upd_same)

theorem size_agent : Try.t33.size = 1 := rfl
section
variable {W : World} {ρ : Operand → Value} {o : Oper}
theorem op_index_ag (ba i n cp : Nat) {x y : Nat} (hi : i < n) (ho : o.op = .indexAddr 30 (.tmp x) (.tmp y)) (hρ : ρ (.tmp x) = .slice (some ⟨ba, 0, none⟩) n cp) (hρ' : ρ (.tmp y) = .int .i64 i) :
    (execOp ρ o).runT Try.prog W #[] = (.ok (.value (.pointer (some ⟨ba, i, none⟩))) W, #[]) := by
  have s48 := size_agent
  rw [Sem.runT_eq]
  simp [go_sem, execOp, ho, hρ, hρ', hi]
  try (first | done | (simp [Addr.add, s48]; done) | (simp [Addr.add, s48]; omega) | rfl)
end
theorem gof_step {M kk r : Nat} {tr : Nat → Nat} (hk : kk < M) (h : tr kk = r + 1) : (if r = 0 then inc kk (gof M tr M) else gof M tr M) = gof M (fun j => if j = kk then r else tr j) M := by
  refine gof_ext (by split <;> simp [inc, gof]) fun j hj => ?_
  have hg := gof_get M tr M
  by_cases hN : r = 0
  · subst hN
    rw [if_pos rfl, inc_get _ _ _ (by rw [gof_len]; exact hj), hg kk hk, hg j hj]
    by_cases e : j = kk
    · subst e; rw [if_pos rfl, if_neg (by omega), wrap_one, if_pos ⟨hj, by simp⟩]
    · simp [e]
  · rw [if_neg hN, hg j hj]
    by_cases e : j = kk
    · subst e; rw [if_neg (by omega)]; simp [hN]
    · simp [e]
theorem lcells_set {tr : Nat → Nat} {M kk r : Nat} (hk : kk < M) : (lcells tr M).set kk (.int .u8 (r : Nat)) = lcells (fun j => if j = kk then r else tr j) M := by
  apply List.ext_getElem (by simp [lcells])
  intro i h1 h2
  have hi : i < M := by simpa [lcells] using h2
  simp only [lcells, List.getElem_set, List.getElem_map, List.getElem_range]
  by_cases e : kk = i
  · subst e; simp
  · rw [if_neg e, if_neg (fun z => e z.symm)]
theorem left_set {base bl cl M kk r : Nat} {tr : Nat → Nat} {w : World} (h : Rw 5 1 base w (.slice (some ⟨bl, 0, none⟩) M cl) M (lcells tr M)) (hk : kk < M) : Rw 5 1 base (w.setCell ⟨bl, kk, none⟩ (.int .u8 (r : Nat))) (.slice (some ⟨bl, 0, none⟩) M cl) M (lcells (fun j => if j = kk then r else tr j) M) := by
  refine ⟨by simp [lcells], .inr ?_⟩
  rcases h.own.2 with ⟨h0, _⟩ | ⟨b, c, cur, he, hge, hb, h1, h2, h3, h4⟩
  · cases h0
  · cases he
    refine ⟨bl, cl, cur.setIfInBounds kk (.int .u8 (r : Nat)), rfl, hge, ?_, h1, h2, by simpa using h3, ?_⟩
    · rw [heap_setCell_same _ _ _ _ _ _ hb]
    · rw [← lcells_set hk, ← h4]
      simp only [Array.toList_setIfInBounds]
      rw [List.take_set]
theorem Bnd_one {sm t : Nat} {l : Int} (h : sm ≤ 1000) : Bnd ⟨[((sm : Nat) : Int)], t, l⟩ := by
  intro x hx
  simp only [List.mem_singleton] at hx
  subst hx
  omega

section
variable {Post : Value → World → Prop} {W : World} {pA rA be M k n kk sm t i : Nat} {l : Int} {ag : Nat → Ag} {tr : Nat → Nat} {va vl : Value} {pl : Nat → Option Place} {F : Nat → Option (Nat × Nat)} {col : Nat → Col} {w w' : World} {g : List Int} {s : St}

theorem AcX.made (A : AcX Post W pA rA be M ag tr va vl pl F col w s) (D : Desk (· = be) pA rA pl F col w') (ks : Ks (fun _ => False) w w') : AcX Post W pA rA be M ag tr va vl pl F col w' s :=
  ⟨A.aw.made D ks, (priv_rw _ _ _ _ _ _).st _ _ A.lf fun b hb => ks.block b ((priv_rw _ _ _ _ _ _).lt _ _ A.lf hb) fun z => z, A.lfc⟩
def own2 (pA rA be : Nat) (vl : Value) (b : Nat) : Prop := ((b = pA ∨ b = rA) ∨ b ∈ blk vl) ∨ b = be
theorem priv_ar (pA rA : Nat) (s : St) : Priv (fun b => b = pA ∨ b = rA) (fun w => Ar w pA rA s) := by
  refine ⟨fun w w' h hb => ⟨(hb _ (.inl rfl)).trans h.hp, (hb _ (.inr rfl)).trans h.hr⟩, fun w b h hb => ?_, fun w b h hb => ?_⟩
  · rcases hb with rfl | rfl
    · rw [h.hp]; rfl
    · rw [h.hr]; rfl
  · rcases hb with rfl | rfl
    · exact h.lt.1
    · exact h.lt.2
theorem priv_two (pA rA be M n : Nat) (vl : Value) (s : St) (xs : List Value) (base : Nat) (g : List Int) : Priv (own2 pA rA be vl) (fun w => (Ar w pA rA s ∧ Rw 5 1 base w vl n xs) ∧ endsSh be M w g) := ((priv_ar pA rA s).and (priv_rw _ _ _ _ _ _)).and (priv_ends be M g)

set_option maxHeartbeats 8000000 in
/-- A turn: the agent goes on. -/
theorem ac_turn_pos {args : Array Value} {x : Nat → Value} {ao bo : Option Addr} {ct co K r bo' oo : Nat} {ov : Nat} (A : AcX Post W pA rA be M ag tr va vl pl F col w ⟨[((sm : Nat) : Int)], t, l⟩) (hx0 : x 0 = .slice ao M ct) (hx1 : x 1 = .slice bo K co) (hx5 : x 5 = .pointer (some ⟨pA, 0, none⟩)) (hx7 : x 7 = .slice (some ⟨be, 0, none⟩) M M) (hx8 : x 8 = va) (hx9 : x 9 = .bool true) (hx15 : x 15 = .int .u64 sm) (hx16 : x 16 = vl) (hx17 : x 17 = .int .i64 i)
    (hbo : bo = some ⟨bo', oo, none⟩) (hov : w.cell? ⟨bo', oo + i, none⟩ = some (.int .u8 ov)) (hov2 : ov ≤ 255) (hi : i < K) (hK : K ≤ 200) (hM0 : 0 < M) (hM : M ≤ 8) (hkk : kk = ov % M) (htr : tr kk = r + 1) (hr : r ≤ 254) (hsm : sm ≤ 900) (ht : t ≤ 3000)
    (H : ∀ (x' : Nat → Value) pl' F' col' w', AcX Post W pA rA be M ag (fun j => if j = kk then r else tr j) va vl pl' F' col' w' ⟨[((sm + 1 : Nat) : Int)], t + 1 + 1, 0⟩ → x' 0 = x 0 → x' 1 = x 1 → x' 5 = x 5 → x' 7 = x 7 → x' 8 = x 8 → x' 9 = .bool true → x' 15 = .int .u64 (sm + 1 : Nat) → x' 16 = x 16 → x' 17 = .int .i64 ((i + 1 : Nat) : Int) →
      Win Try.prog Post pl' n 0 (gor ((Frame.enter Try.prog 5 args .normal).at ⟨T181 x', []⟩ (acK2 Try.f5)) []) w') :
    Win Try.prog Post pl n 0 (gor ((Frame.enter Try.prog 5 args .normal).at ⟨T181 x, []⟩ (.code (acX2 Try.f5) :: acK2 Try.f5)) []) w := by
  have hb : (Frame.enter Try.prog 5 args .normal).kind = .normal := rfl
  have hw := wrap_small (i := i) (by omega)
  have hkM : kk < M := by rw [hkk]; exact Nat.mod_lt _ hM0
  have hR2 : acR2 Try.f5 = codeR (codeR (blockOf (codeL (codeR (acX2 Try.f5))))) := rfl
  obtain ⟨ba, ca, hva, _, hall⟩ := A.aw.all.at hM0 (by decide)
  obtain ⟨bl, cl, hvl, hcl, hleft⟩ := A.lf.at hM0 (by decide)
  have hagc : w.cell? ⟨ba, kk, none⟩ = some (.pointer (some ⟨(ag kk).p, 0, none⟩)) := by rw [hall kk (by omega)]; simp [ptrs, hkM]
  subst hva hvl hbo
  obtain ⟨RC, hRC⟩ : ∃ RC, RC = codeR (codeR (blockOf (codeL (codeR (acX2 Try.f5))))) := ⟨_, rfl⟩
  have hgoal : ∀ {Z : Prop}, Z → Z := fun z => z
  simp only [acX2, bodyOf, Try.f5, codeL, codeR, blockOf, loopOf, Option.getD_some, T181]
  simp only [hx0, hx1, hx5, hx7, hx8, hx9, hx15, hx16, hx17]
  refine Win.seq ?_
  refine Win.seq ?_
  refine Win.region ?_
  simp only [List.size_toArray, List.length_cons, List.length_nil, Nat.reduceAdd, List.range, List.range.loop]
  refine Win.pureOp (v := .int .i64 i) (.inl hb) rfl rfl (fun w => by rw [Sem.runT_eq]; simp [go_sem, execOp, Act.eval]; try (first | omega | rfl | exact ⟨rfl, rfl⟩ | kernel_rfl)) ?_
  simp only [Act.put, Act.eval, List.getElem?_toArray, List.getElem?_cons_zero, List.getElem?_cons_succ, Option.bind_some, List.getElem_toArray, List.getElem_cons_zero, List.getElem_cons_succ, List.setIfInBounds_toArray, List.set_cons_succ, List.set_cons_zero]
  refine Win.pureOp (v := .slice (some ⟨bo', oo, none⟩) K co) (.inl hb) rfl rfl (fun w => by rw [Sem.runT_eq]; simp [go_sem, execOp, Act.eval]; try (first | omega | rfl | exact ⟨rfl, rfl⟩ | kernel_rfl)) ?_
  simp only [Act.put, Act.eval, List.getElem?_toArray, List.getElem?_cons_zero, List.getElem?_cons_succ, Option.bind_some, List.getElem_toArray, List.getElem_cons_zero, List.getElem_cons_succ, List.setIfInBounds_toArray, List.set_cons_succ, List.set_cons_zero]
  refine Win.pureOp (v := .int .i64 (K : Int)) (.inl hb) rfl rfl (fun w => by rw [Sem.runT_eq]; simp [go_sem, execOp, Act.eval]; try (first | omega | rfl | exact ⟨rfl, rfl⟩ | kernel_rfl)) ?_
  simp only [Act.put, Act.eval, List.getElem?_toArray, List.getElem?_cons_zero, List.getElem?_cons_succ, Option.bind_some, List.getElem_toArray, List.getElem_cons_zero, List.getElem_cons_succ, List.setIfInBounds_toArray, List.set_cons_succ, List.set_cons_zero]
  refine Win.pureOp (v := .bool true) (.inl hb) rfl rfl (fun w => by rw [Sem.runT_eq]; simp [go_sem, execOp, Act.eval]; try (first | omega | rfl | exact ⟨rfl, rfl⟩ | kernel_rfl)) ?_
  simp only [Act.put, Act.eval, List.getElem?_toArray, List.getElem?_cons_zero, List.getElem?_cons_succ, Option.bind_some, List.getElem_toArray, List.getElem_cons_zero, List.getElem_cons_succ, List.setIfInBounds_toArray, List.set_cons_succ, List.set_cons_zero]
  refine Win.pureOp (v := .bool true) (.inl hb) rfl rfl (fun w => by rw [Sem.runT_eq]; simp [go_sem, execOp, Act.eval]; try (first | omega | rfl | exact ⟨rfl, rfl⟩ | kernel_rfl)) ?_
  simp only [Act.put, Act.eval, List.getElem?_toArray, List.getElem?_cons_zero, List.getElem?_cons_succ, Option.bind_some, List.getElem_toArray, List.getElem_cons_zero, List.getElem_cons_succ, List.setIfInBounds_toArray, List.set_cons_succ, List.set_cons_zero]
  refine Win.pureOp (v := .slice ao M ct) (.inl hb) rfl rfl (fun w => by rw [Sem.runT_eq]; simp [go_sem, execOp, Act.eval]; try (first | omega | rfl | exact ⟨rfl, rfl⟩ | kernel_rfl)) ?_
  simp only [Act.put, Act.eval, List.getElem?_toArray, List.getElem?_cons_zero, List.getElem?_cons_succ, Option.bind_some, List.getElem_toArray, List.getElem_cons_zero, List.getElem_cons_succ, List.setIfInBounds_toArray, List.set_cons_succ, List.set_cons_zero]
  refine Win.pureOp (v := .int .i64 (M : Int)) (.inl hb) rfl rfl (fun w => by rw [Sem.runT_eq]; simp [go_sem, execOp, Act.eval]; try (first | omega | rfl | exact ⟨rfl, rfl⟩ | kernel_rfl)) ?_
  simp only [Act.put, Act.eval, List.getElem?_toArray, List.getElem?_cons_zero, List.getElem?_cons_succ, Option.bind_some, List.getElem_toArray, List.getElem_cons_zero, List.getElem_cons_succ, List.setIfInBounds_toArray, List.set_cons_succ, List.set_cons_zero]
  refine Win.pureOp (v := .bool true) (.inl hb) rfl rfl (fun w => by rw [Sem.runT_eq]; simp [go_sem, execOp, Act.eval]; try (first | omega | rfl | exact ⟨rfl, rfl⟩ | kernel_rfl)) ?_
  simp only [Act.put, Act.eval, List.getElem?_toArray, List.getElem?_cons_zero, List.getElem?_cons_succ, Option.bind_some, List.getElem_toArray, List.getElem_cons_zero, List.getElem_cons_succ, List.setIfInBounds_toArray, List.set_cons_succ, List.set_cons_zero]
  refine Win.pureOp (v := .bool true) (.inl hb) rfl rfl (fun w => by rw [Sem.runT_eq]; simp [go_sem, execOp, Act.eval]; try (first | omega | rfl | exact ⟨rfl, rfl⟩ | kernel_rfl)) ?_
  simp only [Act.put, Act.eval, List.getElem?_toArray, List.getElem?_cons_zero, List.getElem?_cons_succ, Option.bind_some, List.getElem_toArray, List.getElem_cons_zero, List.getElem_cons_succ, List.setIfInBounds_toArray, List.set_cons_succ, List.set_cons_zero]
  refine Win.pureOp (v := .bool true) (.inl hb) rfl rfl (fun w => by rw [Sem.runT_eq]; simp [go_sem, execOp, Act.eval]; try (first | omega | rfl | exact ⟨rfl, rfl⟩ | kernel_rfl)) ?_
  simp only [Act.put, Act.eval, List.getElem?_toArray, List.getElem?_cons_zero, List.getElem?_cons_succ, Option.bind_some, List.getElem_toArray, List.getElem_cons_zero, List.getElem_cons_succ, List.setIfInBounds_toArray, List.set_cons_succ, List.set_cons_zero]
  refine Win.pureOp (v := .bool true) (.inl hb) rfl rfl (fun w => by rw [Sem.runT_eq]; simp [go_sem, execOp, Act.eval]; try (first | omega | rfl | exact ⟨rfl, rfl⟩ | kernel_rfl)) ?_
  simp only [Act.put, Act.eval, List.getElem?_toArray, List.getElem?_cons_zero, List.getElem?_cons_succ, Option.bind_some, List.getElem_toArray, List.getElem_cons_zero, List.getElem_cons_succ, List.setIfInBounds_toArray, List.set_cons_succ, List.set_cons_zero]
  refine Win.pureOp (v := .bool true) (.inl hb) rfl rfl (fun w => by rw [Sem.runT_eq]; simp [go_sem, execOp, Act.eval]; try (first | omega | rfl | exact ⟨rfl, rfl⟩ | kernel_rfl)) ?_
  simp only [Act.put, Act.eval, List.getElem?_toArray, List.getElem?_cons_zero, List.getElem?_cons_succ, Option.bind_some, List.getElem_toArray, List.getElem_cons_zero, List.getElem_cons_succ, List.setIfInBounds_toArray, List.set_cons_succ, List.set_cons_zero]
  refine Win.opsEnd ?_
  refine Win.cond (t := true) rfl ?_
  simp only [if_true, if_false, Bool.false_eq_true]
  refine Win.skip ?_
  refine Win.seq ?_
  refine Win.block ?_
  refine Win.seq ?_
  have D0 := A.aw.crew.desk
  have hrem : (ov : Int) % (M : Int) = (kk : Int) := by rw [hkk]; push_cast; rfl
  have htm : (ov : Int).tmod (M : Int) = (kk : Int) := by rw [Int.tmod_eq_emod_of_nonneg (by omega)]; exact hrem
  refine D0.code (own := fun _ => False) (S := fun _ => False) (A := fun _ => True) (Priv.const True) trivial (fun _ h => h.elim) (R := fun a' o w' => o = (fun _ => False) ∧ a' = (⟨#[.slice ao M ct, .slice (some ⟨bo', oo, none⟩) K co, x 2, x 3, x 4, .pointer (some ⟨pA, 0, none⟩), x 6, .slice (some ⟨be, 0, none⟩) M M, .slice (some ⟨ba, 0, none⟩) M ca, .bool true, x 10, x 11, x 12, x 13, x 14, .int .u64 sm, .slice (some ⟨bl, 0, none⟩) M cl, .int .i64 i, .int .i64 kk, x 19, x 20, x 21, x 22, x 23, x 24, x 25, x 26, x 27, x 28, x 29, x 30, x 31, x 32, x 33, x 34, x 35, x 36, x 37, x 38, x 39, x 40, x 41, x 42, x 43, x 44, x 45, x 46, x 47, x 48, x 49, x 50, x 51, x 52, x 53, x 54, x 55, x 56, x 57, x 58, x 59, x 60, x 61, x 62, x 63, x 64, x 65, x 66, x 67, x 68, x 69, x 70, x 71, x 72, x 73, x 74, x 75, x 76, x 77, x 78, .int .i64 i, .slice (some ⟨bo', oo, none⟩) K co, .int .i64 (K : Int), .bool true, .bool true, .slice ao M ct, .int .i64 (M : Int), .bool true, .bool true, .bool true, .bool true, .bool true, x 91, x 92, .slice (some ⟨bo', oo, none⟩) K co, .int .i64 i, .pointer (some ⟨bo', oo + i, none⟩), .int .u8 ov, .int .i64 ov, .slice ao M ct, .int .i64 (M : Int), .int .i64 kk, x 101, x 102, x 103, x 104, x 105, x 106, x 107, x 108, x 109, x 110, x 111, x 112, x 113, x 114, x 115, x 116, x 117, x 118, x 119, x 120, x 121, x 122, x 123, x 124, x 125, x 126, x 127, x 128, x 129, x 130, x 131, x 132, x 133, x 134, x 135, x 136, x 137, x 138, x 139, x 140, x 141, x 142, x 143, x 144, x 145, x 146, x 147, x 148, x 149, x 150, x 151, x 152, x 153, x 154, x 155, x 156, x 157, x 158, x 159, x 160, x 161, x 162, x 163, x 164, x 165, x 166, x 167, x 168, x 169, x 170, x 171, x 172, x 173, x 174, x 175, x 176, x 177, x 178, x 179, x 180], []⟩ : Act) ∧ True) (fun a' o => (Priv.const True).tied _ o) (stok_at rfl rfl (by simp) (by kernel_rfl)) (fun wt Q _ hz hcell hQ => ?_) ?_
  · have h1 : wt.cell? ⟨bo', oo + i, none⟩ = some (.int .u8 ov) := (hcell _).trans hov
    have e0 := IntWalk.i64_in (ov : Int) (by omega)
    have e1 := IntWalk.i64_in (kk : Int) (by omega)
    have HQ := Lib.hid hQ
    clear hz hcell D0 A H hall hleft hagc hkk htr hRC hR2 hQ hov
    go_wp2
    exact HQ.out _ _ _ (fun y hy => hy.elim) ⟨rfl, rfl, trivial⟩ (Ks.refl _ _)
  intro a' o w1 _ hR ks1 D1
  obtain ⟨_, rfl, _⟩ := hR
  have A1 := A.made D1 ks1
  have hag1 : w1.cell? ⟨ba, kk, none⟩ = _ := (World.cell?_of_block (a := ⟨ba, kk, none⟩) (ks1.block ba (World.block_lt_of_cell? _ _ hagc) fun z => z)).trans hagc
  clear D0 hagc hall hleft hov
  refine Win.seq ?_
  refine Win.region ?_
  simp only [List.size_toArray, List.length_cons, List.length_nil, Nat.reduceAdd, List.range, List.range.loop]
  refine Win.pureOp (v := .slice (some ⟨ba, 0, none⟩) M ca) (.inl hb) rfl rfl (fun w => by rw [Sem.runT_eq]; simp [go_sem, execOp, Act.eval]; try (first | omega | rfl | exact ⟨rfl, rfl⟩ | kernel_rfl)) ?_
  simp only [Act.put, Act.eval, List.getElem?_toArray, List.getElem?_cons_zero, List.getElem?_cons_succ, Option.bind_some, List.getElem_toArray, List.getElem_cons_zero, List.getElem_cons_succ, List.setIfInBounds_toArray, List.set_cons_succ, List.set_cons_zero]
  refine Win.pureOp (v := .int .i64 kk) (.inl hb) rfl rfl (fun w => by rw [Sem.runT_eq]; simp [go_sem, execOp, Act.eval]; try (first | omega | rfl | exact ⟨rfl, rfl⟩ | kernel_rfl)) ?_
  simp only [Act.put, Act.eval, List.getElem?_toArray, List.getElem?_cons_zero, List.getElem?_cons_succ, Option.bind_some, List.getElem_toArray, List.getElem_cons_zero, List.getElem_cons_succ, List.setIfInBounds_toArray, List.set_cons_succ, List.set_cons_zero]
  refine Win.pureOp (v := .pointer (some ⟨ba, kk, none⟩)) (.inl hb) rfl rfl (fun w => op_index_ag ba kk M ca hkM rfl rfl rfl) ?_
  simp only [Act.put, Act.eval, List.getElem?_toArray, List.getElem?_cons_zero, List.getElem?_cons_succ, Option.bind_some, List.getElem_toArray, List.getElem_cons_zero, List.getElem_cons_succ, List.setIfInBounds_toArray, List.set_cons_succ, List.set_cons_zero]
  refine Win.lookOp (v := .pointer (some ⟨(ag kk).p, 0, none⟩)) (ad := ⟨ba, kk, none⟩) (x := .pointer (some ⟨(ag kk).p, 0, none⟩)) (.inl hb) rfl rfl (hag1) (fun w hc => by rw [Sem.runT_eq]; simp [go_sem, execOp, Act.eval, hc]) ?_
  simp only [Act.put, Act.eval, List.getElem?_toArray, List.getElem?_cons_zero, List.getElem?_cons_succ, Option.bind_some, List.getElem_toArray, List.getElem_cons_zero, List.getElem_cons_succ, List.setIfInBounds_toArray, List.set_cons_succ, List.set_cons_zero]
  refine Win.enter (f := 15) (args := #[.pointer (some ⟨(ag kk).p, 0, none⟩)]) (.inl hb) rfl rfl (fun d => ⟨#[], call_enter mild.toMild Try.func15 rfl rfl rfl rfl _ _ (by simp [Act.eval]), fun e he => by simp at he⟩) ?_
  refine A1.aw.crew.steps (priv_ends be M) hkM (kk := 0) (φ := fun v => IntKind.wrap .u64 (v + 1)) (c := fun _ g => if r = 0 then inc kk g else g) (nx := fun _ _ => ctree kk r) (hl := fun g => inc kk g) (by rw [htr]; rfl) A1.aw.ar (by show (1 : Nat) ≤ 4096; decide) (by show t ≤ 4095; omega) (Bnd_one (by omega)) fun pl2 F2 col2 w2 C2 har2 ks2 sm2 => ?_
  rw [Frame.finish_at]
  simp only [Act.put, Act.eval, List.getElem?_toArray, List.getElem?_cons_zero, List.getElem?_cons_succ, Option.bind_some, List.getElem_toArray, List.getElem_cons_zero, List.getElem_cons_succ, List.setIfInBounds_toArray, List.set_cons_succ, List.set_cons_zero]
  refine Win.pureOp (v := .int .i64 0) (.inl hb) rfl rfl (fun w => rfl) ?_
  simp only [Act.put, Act.eval, List.getElem?_toArray, List.getElem?_cons_zero, List.getElem?_cons_succ, Option.bind_some, List.getElem_toArray, List.getElem_cons_zero, List.getElem_cons_succ, List.setIfInBounds_toArray, List.set_cons_succ, List.set_cons_zero]
  refine Win.opsEnd ?_
  have hL1 := D1.lay
  have hcr : (fun j => if j = kk then ctree kk r else ctree j (tr j)) = fun j => ctree j (if j = kk then r else tr j) := by
    funext j
    by_cases e : j = kk
    · subst e; simp
    · simp [e]
  have hmain : ∀ b, col b = .main → b < w1.heap.size → w2.heap[b]? = w1.heap[b]? := fun b hb hlt => ks2.block b hlt fun z => by
    unfold stepped at z; rw [hb] at z; rcases z with z | z | z | z <;> cases z
  have hu : Go.Proofs.Ytodcnhodbeakiaa.upd ⟨[((sm : Nat) : Int)], t, l⟩ 0 (IntKind.wrap .u64 (was ⟨[((sm : Nat) : Int)], t, l⟩ 0 + 1)) = ⟨[((sm + 1 : Nat) : Int)], t + 1, 0⟩ := by
    rw [show was ⟨[((sm : Nat) : Int)], t, l⟩ 0 = ((sm : Nat) : Int) from rfl, IntWalk.u64_in _ (by omega)]
    show (⟨[((sm : Nat) : Int) + 1], t + 1, 0⟩ : St) = _
    push_cast; rfl
  have hgs := gof_step hkM htr
  have A2 : AcX Post W pA rA be M ag tr _ _ pl F col w1 ⟨[((sm : Nat) : Int)], t, l⟩ := A1
  have C2' : Crew Post (endsSh be M) (· = be) pA rA (memV pA) 1 M ag (fun j => ctree j (if j = kk then r else tr j)) pl2 F2 col2 w2 (gof M (fun j => if j = kk then r else tr j) M) := by
    rw [← hcr, ← hgs]; exact C2
  have har3 : Ar w2 pA rA ⟨[((sm + 1 : Nat) : Int)], t + 1, 0⟩ := by rw [← hu]; exact har2
  have hcM : ∀ b, col b = .main → b < w1.heap.size → col2 b = .main := fun b hb hlt => (sm2.co b hlt).trans hb
  have all2 := (priv_rw _ _ _ _ _ _).st _ _ A1.aw.all fun b hb => hmain b (A1.aw.allc b hb) ((priv_rw _ _ _ _ _ _).lt _ _ A1.aw.all hb)
  have lf2 := (priv_rw _ _ _ _ _ _).st _ _ A1.lf fun b hb => hmain b (A1.lfc b hb) ((priv_rw _ _ _ _ _ _).lt _ _ A1.lf hb)
  have allc2 : ∀ b ∈ blk (.slice (some ⟨ba, 0, none⟩) M ca), col2 b = .main := fun b hb => hcM b (A1.aw.allc b hb) ((priv_rw _ _ _ _ _ _).lt _ _ A1.aw.all hb)
  have lfc2 : ∀ b ∈ blk (.slice (some ⟨bl, 0, none⟩) M cl), col2 b = .main := fun b hb => hcM b (A1.lfc b hb) ((priv_rw _ _ _ _ _ _).lt _ _ A1.lf hb)
  have hzW := A1.aw.ks.size
  have old2 : ∀ b, b < W.heap.size → col2 b = .main := fun b hb => hcM b (A1.aw.old b hb) (by omega)
  have ksW2 : Ks (fun _ => False) W w2 := A1.aw.ks.then ks2 fun b hb z => by
    unfold stepped at z; rw [A1.aw.old b hb] at z; rcases z with z | z | z | z <;> cases z
  clear A A1 A2 C2 har2 hgs hcr hu hmain hcM ks2 sm2 hL1 ks1 D1
  have hLay := C2'.desk.lay
  have gmain : ∀ b, col2 b = .main → b ≠ pA ∧ b ≠ rA ∧ b ≠ be := fun b hb => ⟨fun e => (by rw [e, hLay.ar.1] at hb; cases hb), fun e => (by rw [e, hLay.ar.2] at hb; cases hb), fun e => (by rw [e, hLay.sb be rfl] at hb; cases hb)⟩
  have gbl := gmain bl (lfc2 bl (by simp [blk_some]))
  have gbe : be ≠ pA ∧ be ≠ rA := ⟨fun e => (by have := hLay.ar.1; rw [← e, hLay.sb be rfl] at this; cases this), fun e => (by have := hLay.ar.2; rw [← e, hLay.sb be rfl] at this; cases this)⟩
  have hsh := C2'.sh
  have hgk2 : (gof M (fun j => if j = kk then r else tr j) M).getD kk 0 = if r = 0 then 1 else 0 := by rw [gof_get _ _ _ _ hkM]; simp [hkM]
  have hX : (⟨#[.slice ao M ct, .slice (some ⟨bo', oo, none⟩) K co, x 2, x 3, x 4, .pointer (some ⟨pA, 0, none⟩), x 6, .slice (some ⟨be, 0, none⟩) M M, .slice (some ⟨ba, 0, none⟩) M ca, .bool true, x 10, x 11, x 12, x 13, x 14, .int .u64 sm, .slice (some ⟨bl, 0, none⟩) M cl, .int .i64 i, .int .i64 kk, .int .i64 0, x 20, x 21, x 22, x 23, x 24, x 25, x 26, x 27, x 28, x 29, x 30, x 31, x 32, x 33, x 34, x 35, x 36, x 37, x 38, x 39, x 40, x 41, x 42, x 43, x 44, x 45, x 46, x 47, x 48, x 49, x 50, x 51, x 52, x 53, x 54, x 55, x 56, x 57, x 58, x 59, x 60, x 61, x 62, x 63, x 64, x 65, x 66, x 67, x 68, x 69, x 70, x 71, x 72, x 73, x 74, x 75, x 76, x 77, x 78, .int .i64 i, .slice (some ⟨bo', oo, none⟩) K co, .int .i64 (K : Int), .bool true, .bool true, .slice ao M ct, .int .i64 (M : Int), .bool true, .bool true, .bool true, .bool true, .bool true, x 91, x 92, .slice (some ⟨bo', oo, none⟩) K co, .int .i64 i, .pointer (some ⟨bo', oo + i, none⟩), .int .u8 ov, .int .i64 ov, .slice ao M ct, .int .i64 (M : Int), .int .i64 kk, .slice (some ⟨ba, 0, none⟩) M ca, .int .i64 kk, .pointer (some ⟨ba, kk, none⟩), .pointer (some ⟨(ag kk).p, 0, none⟩), .int .i64 0, x 106, x 107, x 108, x 109, x 110, x 111, x 112, x 113, x 114, x 115, x 116, x 117, x 118, x 119, x 120, x 121, x 122, x 123, x 124, x 125, x 126, x 127, x 128, x 129, x 130, x 131, x 132, x 133, x 134, x 135, x 136, x 137, x 138, x 139, x 140, x 141, x 142, x 143, x 144, x 145, x 146, x 147, x 148, x 149, x 150, x 151, x 152, x 153, x 154, x 155, x 156, x 157, x 158, x 159, x 160, x 161, x 162, x 163, x 164, x 165, x 166, x 167, x 168, x 169, x 170, x 171, x 172, x 173, x 174, x 175, x 176, x 177, x 178, x 179, x 180], []⟩ : Act) = ⟨T181 (fun j => match j with | 0 => .slice ao M ct | 1 => .slice (some ⟨bo', oo, none⟩) K co | 5 => .pointer (some ⟨pA, 0, none⟩) | 7 => .slice (some ⟨be, 0, none⟩) M M | 8 => .slice (some ⟨ba, 0, none⟩) M ca | 9 => .bool true | 15 => .int .u64 sm | 16 => .slice (some ⟨bl, 0, none⟩) M cl | 17 => .int .i64 i | 18 => .int .i64 kk | 19 => .int .i64 0 | 79 => .int .i64 i | 80 => .slice (some ⟨bo', oo, none⟩) K co | 81 => .int .i64 (K : Int) | 82 => .bool true | 83 => .bool true | 84 => .slice ao M ct | 85 => .int .i64 (M : Int) | 86 => .bool true | 87 => .bool true | 88 => .bool true | 89 => .bool true | 90 => .bool true | 93 => .slice (some ⟨bo', oo, none⟩) K co | 94 => .int .i64 i | 95 => .pointer (some ⟨bo', oo + i, none⟩) | 96 => .int .u8 ov | 97 => .int .i64 ov | 98 => .slice ao M ct | 99 => .int .i64 (M : Int) | 100 => .int .i64 kk | 101 => .slice (some ⟨ba, 0, none⟩) M ca | 102 => .int .i64 kk | 103 => .pointer (some ⟨ba, kk, none⟩) | 104 => .pointer (some ⟨(ag kk).p, 0, none⟩) | 105 => .int .i64 0 | j => x j), []⟩ := rfl
  rw [hX]
  obtain ⟨y, hy⟩ : ∃ y : Nat → Value, y = (fun j => match j with | 0 => .slice ao M ct | 1 => .slice (some ⟨bo', oo, none⟩) K co | 5 => .pointer (some ⟨pA, 0, none⟩) | 7 => .slice (some ⟨be, 0, none⟩) M M | 8 => .slice (some ⟨ba, 0, none⟩) M ca | 9 => .bool true | 15 => .int .u64 sm | 16 => .slice (some ⟨bl, 0, none⟩) M cl | 17 => .int .i64 i | 18 => .int .i64 kk | 19 => .int .i64 0 | 79 => .int .i64 i | 80 => .slice (some ⟨bo', oo, none⟩) K co | 81 => .int .i64 (K : Int) | 82 => .bool true | 83 => .bool true | 84 => .slice ao M ct | 85 => .int .i64 (M : Int) | 86 => .bool true | 87 => .bool true | 88 => .bool true | 89 => .bool true | 90 => .bool true | 93 => .slice (some ⟨bo', oo, none⟩) K co | 94 => .int .i64 i | 95 => .pointer (some ⟨bo', oo + i, none⟩) | 96 => .int .u8 ov | 97 => .int .i64 ov | 98 => .slice ao M ct | 99 => .int .i64 (M : Int) | 100 => .int .i64 kk | 101 => .slice (some ⟨ba, 0, none⟩) M ca | 102 => .int .i64 kk | 103 => .pointer (some ⟨ba, kk, none⟩) | 104 => .pointer (some ⟨(ag kk).p, 0, none⟩) | 105 => .int .i64 0 | j => x j) := ⟨_, rfl⟩
  have y0 : y 0 = x 0 := (congrFun hy 0).trans hx0.symm
  have y1 : y 1 = x 1 := (congrFun hy 1).trans hx1.symm
  have y5 : y 5 = .pointer (some ⟨pA, 0, none⟩) := (congrFun hy 5).trans rfl
  have y7 : y 7 = .slice (some ⟨be, 0, none⟩) M M := (congrFun hy 7).trans rfl
  have y8 : y 8 = x 8 := (congrFun hy 8).trans hx8.symm
  have y15 : y 15 = .int .u64 sm := (congrFun hy 15).trans rfl
  have y16 : y 16 = .slice (some ⟨bl, 0, none⟩) M cl := (congrFun hy 16).trans rfl
  have y17 : y 17 = .int .i64 i := (congrFun hy 17).trans rfl
  have y18 : y 18 = .int .i64 kk := (congrFun hy 18).trans rfl
  have y19 : y 19 = .int .i64 0 := (congrFun hy 19).trans rfl
  rw [← hy]
  clear hX hy

  refine C2'.desk.code (c := acR2 Try.f5) (own := own2 pA rA be (.slice (some ⟨bl, 0, none⟩) M cl)) (S := own2 pA rA be (.slice (some ⟨bl, 0, none⟩) M cl)) (A := fun w => (Ar w pA rA ⟨[((sm + 1 : Nat) : Int)], t + 1, 0⟩ ∧ Rw 5 1 W.heap.size w (.slice (some ⟨bl, 0, none⟩) M cl) M (lcells tr M)) ∧ endsSh be M w (gof M (fun j => if j = kk then r else tr j) M)) (priv_two _ _ _ _ _ _ _ _ _ _) ⟨⟨har3, lf2⟩, hsh⟩ (fun b hb => by
      rcases hb with ((rfl | rfl) | hb) | rfl
      · rw [hLay.ar.1]; rfl
      · rw [hLay.ar.2]; rfl
      · rw [lfc2 b hb]; rfl
      · rw [hLay.sb b rfl]; rfl) (R := fun a' o w' => o = own2 pA rA be (.slice (some ⟨bl, 0, none⟩) M cl) ∧ Fr2 y (sm + 1) kk a' ∧ ((Ar w' pA rA ⟨[((sm + 1 : Nat) : Int)], t + 1 + 1, 0⟩ ∧ Rw 5 1 W.heap.size w' (.slice (some ⟨bl, 0, none⟩) M cl) M (lcells (fun j => if j = kk then r else tr j) M)) ∧ endsSh be M w' (gof M (fun j => if j = kk then r else tr j) M))) (fun a' o => (priv_two _ _ _ _ _ _ _ _ _ _).tied _ o) (stok_at rfl rfl (by simp) (by kernel_rfl)) (fun wt Q hA hz hcell hQ => ?_) ?_
  · obtain ⟨⟨ha, hlf⟩, hes⟩ := hA
    obtain ⟨_, c3, cur, he3, _, hrow, _⟩ := hlf.own.2.resolve_left (fun z => by cases z.1)
    cases he3
    obtain ⟨_, _, he4, _, hcs⟩ := hlf.at hM0 (by decide)
    cases he4
    refine ac_lone2_pos (t := t + 1) (l := 0) (sm := sm) (r := r) (cl := cl) y5 y7 y15 y16 y18 y19 hkM hM hcl (by omega) (by omega) (by omega) hrow ?_ ((ends_cell hes hkM).1.trans (by rw [hgk2])) ha ⟨gbe.1, gbe.2, gbl.1, gbl.2.1⟩ gbl.2.2 fun a' w' hf ha' hk' => ?_
    · rw [hcs kk (by omega), lcells_get _ _ _ hkM, htr]
    · have k1 : Kp [bl] wt (wt.setCell ⟨bl, kk, none⟩ (.int .u8 (r : Nat))) := (Kp.refl _ _).setCell (.inl (by simp)) _
      have hls := left_set (r := r) hlf hkM
      refine hQ _ _ _ (fun z hz' => .inl hz') ⟨rfl, hf, ⟨ha', hls.keep hk' (fun b hb => by rw [blk_some, List.mem_singleton] at hb; subst hb; simp [gbl.1, gbl.2.1])⟩, ?_⟩ ((((ks_of_kp k1).mono fun b _ z => ?_).trans ((ks_of_kp hk').mono fun b _ z => ?_)))
      · exact ⟨hk'.row (by simp [gbe.1, gbe.2]) (k1.row (by simpa using gbl.2.2.symm) hes.1), hes.2⟩
      · simp at z; subst z; exact .inl (.inr (by simp [blk_some]))
      · simp at z; exact .inl (.inl z)
  intro a' o w5 _ hR ks5 D5
  obtain ⟨_, hf, ⟨ha5, hlf5⟩, hes5⟩ := hR
  have hat := hf.at
  have C5 := C2'.keep D5 ks5 (fun b _ hb => by
    rcases hb with ((rfl | rfl) | hb) | rfl
    · exact .inr (.inl hLay.ar.1)
    · exact .inr (.inl hLay.ar.2)
    · exact .inl (lfc2 b hb)
    · exact .inr (.inr (hLay.sb b rfl))) hes5
  have hzW2 := ksW2.size
  have hba : ba ≠ bl := fun e => by
    obtain ⟨_, c1, h1⟩ := all2.block ba (by simp [blk_some])
    obtain ⟨_, c2, h2⟩ := lf2.block bl (by simp [blk_some])
    rw [e] at h1
    have := h1.symm.trans h2
    simp at this
  have all5 := (priv_rw _ _ _ _ _ _).st _ _ all2 fun b hb => ks5.block b ((priv_rw _ _ _ _ _ _).lt _ _ all2 hb) fun z => by
    have gb := gmain b (allc2 b hb)
    rw [blk_some, List.mem_singleton] at hb
    rcases z with ((z | z) | z) | z
    · exact gb.1 z
    · exact gb.2.1 z
    · rw [blk_some, List.mem_singleton] at z; exact hba (hb.symm.trans z)
    · exact gb.2.2 z
  have ksW5 : Ks (fun _ => False) W w5 := ksW2.then ks5 fun b hb z => by
    have hm := old2 b hb
    have gb := gmain b hm
    rcases z with ((z | z) | z) | z
    · exact gb.1 z
    · exact gb.2.1 z
    · have := (lf2.block b z).1; omega
    · exact gb.2.2 z
  have A5 : AcX Post W pA rA be M ag (fun j => if j = kk then r else tr j) _ _ pl2 F2 col2 w5 ⟨[((sm + 1 : Nat) : Int)], t + 1 + 1, 0⟩ := ⟨⟨C5, ha5, all5, allc2, old2, ksW5⟩, hlf5, lfc2⟩
  rw [hat]
  obtain ⟨u, hu⟩ : ∃ u : Nat → Value, u = fun j => a'.tmps.getD j undef := ⟨_, rfl⟩
  have u0 : u 0 = x 0 := by rw [hu]; exact hf.s0.trans y0
  have u1 : u 1 = x 1 := by rw [hu]; exact hf.s1.trans y1
  have u5 : u 5 = x 5 := by rw [hu]; exact hf.s5.trans (y5.trans hx5.symm)
  have u7 : u 7 = x 7 := by rw [hu]; exact hf.s7.trans (y7.trans hx7.symm)
  have u8 : u 8 = x 8 := by rw [hu]; exact hf.s8.trans y8
  have u9 : u 9 = .bool true := by rw [hu]; exact hf.s9
  have u15 : u 15 = .int .u64 (sm + 1 : Nat) := by rw [hu]; exact hf.s15
  have u16 : u 16 = x 16 := by rw [hu]; exact hf.s16.trans (y16.trans hx16.symm)
  have u17 : u 17 = .int .i64 i := by rw [hu]; exact hf.s17.trans y17
  rw [← hu]
  clear hu hat hf
  refine Win.inBlock ?_
  simp only [T181]
  refine Win.region ?_
  simp only [List.size_toArray, List.length_cons, List.length_nil, Nat.reduceAdd, List.range, List.range.loop]
  refine Win.pureOp (v := .int .i64 i) (.inl hb) rfl rfl (fun w => by rw [Sem.runT_eq]; simp [go_sem, execOp, Act.eval, u17]; try (first | omega | rfl | exact ⟨rfl, rfl⟩ | kernel_rfl)) ?_
  simp only [Act.put, Act.eval, List.getElem?_toArray, List.getElem?_cons_zero, List.getElem?_cons_succ, Option.bind_some, List.getElem_toArray, List.getElem_cons_zero, List.getElem_cons_succ, List.setIfInBounds_toArray, List.set_cons_succ, List.set_cons_zero]
  refine Win.pureOp (v := .int .i64 ((i + 1 : Nat) : Int)) (.inl hb) rfl rfl (fun w => by rw [Sem.runT_eq]; simp [go_sem, execOp, Act.eval, hw]; try (first | omega | rfl | exact ⟨rfl, rfl⟩ | kernel_rfl)) ?_
  simp only [Act.put, Act.eval, List.getElem?_toArray, List.getElem?_cons_zero, List.getElem?_cons_succ, Option.bind_some, List.getElem_toArray, List.getElem_cons_zero, List.getElem_cons_succ, List.setIfInBounds_toArray, List.set_cons_succ, List.set_cons_zero]
  refine Win.pureOp (v := .int .i64 ((i + 1 : Nat) : Int)) (.inl hb) rfl rfl (fun w => by rw [Sem.runT_eq]; simp [go_sem, execOp, Act.eval]; try (first | omega | rfl | exact ⟨rfl, rfl⟩ | kernel_rfl)) ?_
  simp only [Act.put, Act.eval, List.getElem?_toArray, List.getElem?_cons_zero, List.getElem?_cons_succ, Option.bind_some, List.getElem_toArray, List.getElem_cons_zero, List.getElem_cons_succ, List.setIfInBounds_toArray, List.set_cons_succ, List.set_cons_zero]
  refine Win.opsEnd ?_
  exact H (fun j => match j with | 17 => .int .i64 ((i + 1 : Nat) : Int) | 91 => .int .i64 i | 92 => .int .i64 ((i + 1 : Nat) : Int) | j => u j) pl2 F2 col2 w5 A5 u0 u1 u5 u7 u8 u9 u15 u16 rfl

set_option maxHeartbeats 8000000 in
/-- A turn: the agent is at its end. -/
theorem ac_turn_zero {args : Array Value} {x : Nat → Value} {ao bo : Option Addr} {ct co K r bo' oo : Nat} {ov : Nat} (A : AcX Post W pA rA be M ag tr va vl pl F col w ⟨[((sm : Nat) : Int)], t, l⟩) (hx0 : x 0 = .slice ao M ct) (hx1 : x 1 = .slice bo K co) (hx5 : x 5 = .pointer (some ⟨pA, 0, none⟩)) (hx7 : x 7 = .slice (some ⟨be, 0, none⟩) M M) (hx8 : x 8 = va) (hx9 : x 9 = .bool true) (hx15 : x 15 = .int .u64 sm) (hx16 : x 16 = vl) (hx17 : x 17 = .int .i64 i)
    (hbo : bo = some ⟨bo', oo, none⟩) (hov : w.cell? ⟨bo', oo + i, none⟩ = some (.int .u8 ov)) (hov2 : ov ≤ 255) (hi : i < K) (hK : K ≤ 200) (hM0 : 0 < M) (hM : M ≤ 8) (hkk : kk = ov % M) (htr : tr kk = 0) (hr : r ≤ 254) (hsm : sm ≤ 900) (ht : t ≤ 3000)
    (H : ∀ (x' : Nat → Value) pl' F' col' w', AcX Post W pA rA be M ag (tr) va vl pl' F' col' w' ⟨[((sm : Nat) : Int)], t + 1, 0⟩ → x' 0 = x 0 → x' 1 = x 1 → x' 5 = x 5 → x' 7 = x 7 → x' 8 = x 8 → x' 9 = .bool true → x' 15 = .int .u64 (sm : Nat) → x' 16 = x 16 → x' 17 = .int .i64 ((i + 1 : Nat) : Int) →
      Win Try.prog Post pl' n 0 (gor ((Frame.enter Try.prog 5 args .normal).at ⟨T181 x', []⟩ (acK2 Try.f5)) []) w') :
    Win Try.prog Post pl n 0 (gor ((Frame.enter Try.prog 5 args .normal).at ⟨T181 x, []⟩ (.code (acX2 Try.f5) :: acK2 Try.f5)) []) w := by
  have hb : (Frame.enter Try.prog 5 args .normal).kind = .normal := rfl
  have hw := wrap_small (i := i) (by omega)
  have hkM : kk < M := by rw [hkk]; exact Nat.mod_lt _ hM0
  have hR2 : acR2 Try.f5 = codeR (codeR (blockOf (codeL (codeR (acX2 Try.f5))))) := rfl
  obtain ⟨ba, ca, hva, _, hall⟩ := A.aw.all.at hM0 (by decide)
  obtain ⟨bl, cl, hvl, hcl, hleft⟩ := A.lf.at hM0 (by decide)
  have hagc : w.cell? ⟨ba, kk, none⟩ = some (.pointer (some ⟨(ag kk).p, 0, none⟩)) := by rw [hall kk (by omega)]; simp [ptrs, hkM]
  subst hva hvl hbo
  obtain ⟨RC, hRC⟩ : ∃ RC, RC = codeR (codeR (blockOf (codeL (codeR (acX2 Try.f5))))) := ⟨_, rfl⟩
  have hgoal : ∀ {Z : Prop}, Z → Z := fun z => z
  simp only [acX2, bodyOf, Try.f5, codeL, codeR, blockOf, loopOf, Option.getD_some, T181]
  simp only [hx0, hx1, hx5, hx7, hx8, hx9, hx15, hx16, hx17]
  refine Win.seq ?_
  refine Win.seq ?_
  refine Win.region ?_
  simp only [List.size_toArray, List.length_cons, List.length_nil, Nat.reduceAdd, List.range, List.range.loop]
  refine Win.pureOp (v := .int .i64 i) (.inl hb) rfl rfl (fun w => by rw [Sem.runT_eq]; simp [go_sem, execOp, Act.eval]; try (first | omega | rfl | exact ⟨rfl, rfl⟩ | kernel_rfl)) ?_
  simp only [Act.put, Act.eval, List.getElem?_toArray, List.getElem?_cons_zero, List.getElem?_cons_succ, Option.bind_some, List.getElem_toArray, List.getElem_cons_zero, List.getElem_cons_succ, List.setIfInBounds_toArray, List.set_cons_succ, List.set_cons_zero]
  refine Win.pureOp (v := .slice (some ⟨bo', oo, none⟩) K co) (.inl hb) rfl rfl (fun w => by rw [Sem.runT_eq]; simp [go_sem, execOp, Act.eval]; try (first | omega | rfl | exact ⟨rfl, rfl⟩ | kernel_rfl)) ?_
  simp only [Act.put, Act.eval, List.getElem?_toArray, List.getElem?_cons_zero, List.getElem?_cons_succ, Option.bind_some, List.getElem_toArray, List.getElem_cons_zero, List.getElem_cons_succ, List.setIfInBounds_toArray, List.set_cons_succ, List.set_cons_zero]
  refine Win.pureOp (v := .int .i64 (K : Int)) (.inl hb) rfl rfl (fun w => by rw [Sem.runT_eq]; simp [go_sem, execOp, Act.eval]; try (first | omega | rfl | exact ⟨rfl, rfl⟩ | kernel_rfl)) ?_
  simp only [Act.put, Act.eval, List.getElem?_toArray, List.getElem?_cons_zero, List.getElem?_cons_succ, Option.bind_some, List.getElem_toArray, List.getElem_cons_zero, List.getElem_cons_succ, List.setIfInBounds_toArray, List.set_cons_succ, List.set_cons_zero]
  refine Win.pureOp (v := .bool true) (.inl hb) rfl rfl (fun w => by rw [Sem.runT_eq]; simp [go_sem, execOp, Act.eval]; try (first | omega | rfl | exact ⟨rfl, rfl⟩ | kernel_rfl)) ?_
  simp only [Act.put, Act.eval, List.getElem?_toArray, List.getElem?_cons_zero, List.getElem?_cons_succ, Option.bind_some, List.getElem_toArray, List.getElem_cons_zero, List.getElem_cons_succ, List.setIfInBounds_toArray, List.set_cons_succ, List.set_cons_zero]
  refine Win.pureOp (v := .bool true) (.inl hb) rfl rfl (fun w => by rw [Sem.runT_eq]; simp [go_sem, execOp, Act.eval]; try (first | omega | rfl | exact ⟨rfl, rfl⟩ | kernel_rfl)) ?_
  simp only [Act.put, Act.eval, List.getElem?_toArray, List.getElem?_cons_zero, List.getElem?_cons_succ, Option.bind_some, List.getElem_toArray, List.getElem_cons_zero, List.getElem_cons_succ, List.setIfInBounds_toArray, List.set_cons_succ, List.set_cons_zero]
  refine Win.pureOp (v := .slice ao M ct) (.inl hb) rfl rfl (fun w => by rw [Sem.runT_eq]; simp [go_sem, execOp, Act.eval]; try (first | omega | rfl | exact ⟨rfl, rfl⟩ | kernel_rfl)) ?_
  simp only [Act.put, Act.eval, List.getElem?_toArray, List.getElem?_cons_zero, List.getElem?_cons_succ, Option.bind_some, List.getElem_toArray, List.getElem_cons_zero, List.getElem_cons_succ, List.setIfInBounds_toArray, List.set_cons_succ, List.set_cons_zero]
  refine Win.pureOp (v := .int .i64 (M : Int)) (.inl hb) rfl rfl (fun w => by rw [Sem.runT_eq]; simp [go_sem, execOp, Act.eval]; try (first | omega | rfl | exact ⟨rfl, rfl⟩ | kernel_rfl)) ?_
  simp only [Act.put, Act.eval, List.getElem?_toArray, List.getElem?_cons_zero, List.getElem?_cons_succ, Option.bind_some, List.getElem_toArray, List.getElem_cons_zero, List.getElem_cons_succ, List.setIfInBounds_toArray, List.set_cons_succ, List.set_cons_zero]
  refine Win.pureOp (v := .bool true) (.inl hb) rfl rfl (fun w => by rw [Sem.runT_eq]; simp [go_sem, execOp, Act.eval]; try (first | omega | rfl | exact ⟨rfl, rfl⟩ | kernel_rfl)) ?_
  simp only [Act.put, Act.eval, List.getElem?_toArray, List.getElem?_cons_zero, List.getElem?_cons_succ, Option.bind_some, List.getElem_toArray, List.getElem_cons_zero, List.getElem_cons_succ, List.setIfInBounds_toArray, List.set_cons_succ, List.set_cons_zero]
  refine Win.pureOp (v := .bool true) (.inl hb) rfl rfl (fun w => by rw [Sem.runT_eq]; simp [go_sem, execOp, Act.eval]; try (first | omega | rfl | exact ⟨rfl, rfl⟩ | kernel_rfl)) ?_
  simp only [Act.put, Act.eval, List.getElem?_toArray, List.getElem?_cons_zero, List.getElem?_cons_succ, Option.bind_some, List.getElem_toArray, List.getElem_cons_zero, List.getElem_cons_succ, List.setIfInBounds_toArray, List.set_cons_succ, List.set_cons_zero]
  refine Win.pureOp (v := .bool true) (.inl hb) rfl rfl (fun w => by rw [Sem.runT_eq]; simp [go_sem, execOp, Act.eval]; try (first | omega | rfl | exact ⟨rfl, rfl⟩ | kernel_rfl)) ?_
  simp only [Act.put, Act.eval, List.getElem?_toArray, List.getElem?_cons_zero, List.getElem?_cons_succ, Option.bind_some, List.getElem_toArray, List.getElem_cons_zero, List.getElem_cons_succ, List.setIfInBounds_toArray, List.set_cons_succ, List.set_cons_zero]
  refine Win.pureOp (v := .bool true) (.inl hb) rfl rfl (fun w => by rw [Sem.runT_eq]; simp [go_sem, execOp, Act.eval]; try (first | omega | rfl | exact ⟨rfl, rfl⟩ | kernel_rfl)) ?_
  simp only [Act.put, Act.eval, List.getElem?_toArray, List.getElem?_cons_zero, List.getElem?_cons_succ, Option.bind_some, List.getElem_toArray, List.getElem_cons_zero, List.getElem_cons_succ, List.setIfInBounds_toArray, List.set_cons_succ, List.set_cons_zero]
  refine Win.pureOp (v := .bool true) (.inl hb) rfl rfl (fun w => by rw [Sem.runT_eq]; simp [go_sem, execOp, Act.eval]; try (first | omega | rfl | exact ⟨rfl, rfl⟩ | kernel_rfl)) ?_
  simp only [Act.put, Act.eval, List.getElem?_toArray, List.getElem?_cons_zero, List.getElem?_cons_succ, Option.bind_some, List.getElem_toArray, List.getElem_cons_zero, List.getElem_cons_succ, List.setIfInBounds_toArray, List.set_cons_succ, List.set_cons_zero]
  refine Win.opsEnd ?_
  refine Win.cond (t := true) rfl ?_
  simp only [if_true, if_false, Bool.false_eq_true]
  refine Win.skip ?_
  refine Win.seq ?_
  refine Win.block ?_
  refine Win.seq ?_
  have D0 := A.aw.crew.desk
  have hrem : (ov : Int) % (M : Int) = (kk : Int) := by rw [hkk]; push_cast; rfl
  have htm : (ov : Int).tmod (M : Int) = (kk : Int) := by rw [Int.tmod_eq_emod_of_nonneg (by omega)]; exact hrem
  refine D0.code (own := fun _ => False) (S := fun _ => False) (A := fun _ => True) (Priv.const True) trivial (fun _ h => h.elim) (R := fun a' o w' => o = (fun _ => False) ∧ a' = (⟨#[.slice ao M ct, .slice (some ⟨bo', oo, none⟩) K co, x 2, x 3, x 4, .pointer (some ⟨pA, 0, none⟩), x 6, .slice (some ⟨be, 0, none⟩) M M, .slice (some ⟨ba, 0, none⟩) M ca, .bool true, x 10, x 11, x 12, x 13, x 14, .int .u64 sm, .slice (some ⟨bl, 0, none⟩) M cl, .int .i64 i, .int .i64 kk, x 19, x 20, x 21, x 22, x 23, x 24, x 25, x 26, x 27, x 28, x 29, x 30, x 31, x 32, x 33, x 34, x 35, x 36, x 37, x 38, x 39, x 40, x 41, x 42, x 43, x 44, x 45, x 46, x 47, x 48, x 49, x 50, x 51, x 52, x 53, x 54, x 55, x 56, x 57, x 58, x 59, x 60, x 61, x 62, x 63, x 64, x 65, x 66, x 67, x 68, x 69, x 70, x 71, x 72, x 73, x 74, x 75, x 76, x 77, x 78, .int .i64 i, .slice (some ⟨bo', oo, none⟩) K co, .int .i64 (K : Int), .bool true, .bool true, .slice ao M ct, .int .i64 (M : Int), .bool true, .bool true, .bool true, .bool true, .bool true, x 91, x 92, .slice (some ⟨bo', oo, none⟩) K co, .int .i64 i, .pointer (some ⟨bo', oo + i, none⟩), .int .u8 ov, .int .i64 ov, .slice ao M ct, .int .i64 (M : Int), .int .i64 kk, x 101, x 102, x 103, x 104, x 105, x 106, x 107, x 108, x 109, x 110, x 111, x 112, x 113, x 114, x 115, x 116, x 117, x 118, x 119, x 120, x 121, x 122, x 123, x 124, x 125, x 126, x 127, x 128, x 129, x 130, x 131, x 132, x 133, x 134, x 135, x 136, x 137, x 138, x 139, x 140, x 141, x 142, x 143, x 144, x 145, x 146, x 147, x 148, x 149, x 150, x 151, x 152, x 153, x 154, x 155, x 156, x 157, x 158, x 159, x 160, x 161, x 162, x 163, x 164, x 165, x 166, x 167, x 168, x 169, x 170, x 171, x 172, x 173, x 174, x 175, x 176, x 177, x 178, x 179, x 180], []⟩ : Act) ∧ True) (fun a' o => (Priv.const True).tied _ o) (stok_at rfl rfl (by simp) (by kernel_rfl)) (fun wt Q _ hz hcell hQ => ?_) ?_
  · have h1 : wt.cell? ⟨bo', oo + i, none⟩ = some (.int .u8 ov) := (hcell _).trans hov
    have e0 := IntWalk.i64_in (ov : Int) (by omega)
    have e1 := IntWalk.i64_in (kk : Int) (by omega)
    have HQ := Lib.hid hQ
    clear hz hcell D0 A H hall hleft hagc hkk htr hRC hR2 hQ hov
    go_wp2
    exact HQ.out _ _ _ (fun y hy => hy.elim) ⟨rfl, rfl, trivial⟩ (Ks.refl _ _)
  intro a' o w1 _ hR ks1 D1
  obtain ⟨_, rfl, _⟩ := hR
  have A1 := A.made D1 ks1
  have hag1 : w1.cell? ⟨ba, kk, none⟩ = _ := (World.cell?_of_block (a := ⟨ba, kk, none⟩) (ks1.block ba (World.block_lt_of_cell? _ _ hagc) fun z => z)).trans hagc
  clear D0 hagc hall hleft hov
  refine Win.seq ?_
  refine Win.region ?_
  simp only [List.size_toArray, List.length_cons, List.length_nil, Nat.reduceAdd, List.range, List.range.loop]
  refine Win.pureOp (v := .slice (some ⟨ba, 0, none⟩) M ca) (.inl hb) rfl rfl (fun w => by rw [Sem.runT_eq]; simp [go_sem, execOp, Act.eval]; try (first | omega | rfl | exact ⟨rfl, rfl⟩ | kernel_rfl)) ?_
  simp only [Act.put, Act.eval, List.getElem?_toArray, List.getElem?_cons_zero, List.getElem?_cons_succ, Option.bind_some, List.getElem_toArray, List.getElem_cons_zero, List.getElem_cons_succ, List.setIfInBounds_toArray, List.set_cons_succ, List.set_cons_zero]
  refine Win.pureOp (v := .int .i64 kk) (.inl hb) rfl rfl (fun w => by rw [Sem.runT_eq]; simp [go_sem, execOp, Act.eval]; try (first | omega | rfl | exact ⟨rfl, rfl⟩ | kernel_rfl)) ?_
  simp only [Act.put, Act.eval, List.getElem?_toArray, List.getElem?_cons_zero, List.getElem?_cons_succ, Option.bind_some, List.getElem_toArray, List.getElem_cons_zero, List.getElem_cons_succ, List.setIfInBounds_toArray, List.set_cons_succ, List.set_cons_zero]
  refine Win.pureOp (v := .pointer (some ⟨ba, kk, none⟩)) (.inl hb) rfl rfl (fun w => op_index_ag ba kk M ca hkM rfl rfl rfl) ?_
  simp only [Act.put, Act.eval, List.getElem?_toArray, List.getElem?_cons_zero, List.getElem?_cons_succ, Option.bind_some, List.getElem_toArray, List.getElem_cons_zero, List.getElem_cons_succ, List.setIfInBounds_toArray, List.set_cons_succ, List.set_cons_zero]
  refine Win.lookOp (v := .pointer (some ⟨(ag kk).p, 0, none⟩)) (ad := ⟨ba, kk, none⟩) (x := .pointer (some ⟨(ag kk).p, 0, none⟩)) (.inl hb) rfl rfl (hag1) (fun w hc => by rw [Sem.runT_eq]; simp [go_sem, execOp, Act.eval, hc]) ?_
  simp only [Act.put, Act.eval, List.getElem?_toArray, List.getElem?_cons_zero, List.getElem?_cons_succ, Option.bind_some, List.getElem_toArray, List.getElem_cons_zero, List.getElem_cons_succ, List.setIfInBounds_toArray, List.set_cons_succ, List.set_cons_zero]
  refine Win.enter (f := 15) (args := #[.pointer (some ⟨(ag kk).p, 0, none⟩)]) (.inl hb) rfl rfl (fun d => ⟨#[], call_enter mild.toMild Try.func15 rfl rfl rfl rfl _ _ (by simp [Act.eval]), fun e he => by simp at he⟩) ?_
  have hstk := A1.aw.crew.st kk hkM
  rw [htr] at hstk
  obtain ⟨hpk, hSk⟩ := hstk
  refine Win.calls mild D1.lies (stok_at rfl rfl (by simp) (by kernel_rfl)) (R := fun e w' => e = .returned (.int .i64 6) ∧ Ks (fun _ => False) (D1.lies.veil.world (fun _ _ => 0) 0 w1) w') (fun τ => (step_over _ (ag kk).p (by rw [veil_cell]; exact cell_of_row hSk 6)).mono (by rintro e w' ⟨h1, h2⟩; exact ⟨h1, ks_twin0 h2.ks0⟩)) (fun e w' h => ⟨_, h.1⟩) ?_
  intro v' w2 τ Dd hok' hVOK hVK hR
  obtain ⟨hv, hku⟩ := hR
  obtain rfl : v' = .int .i64 6 := by simpa using hv
  have ks2 := ks_of_twin D1.lies hVOK hVK hku
  have D2 := D1.turned (D1.lies.keeps hVK hVOK) ks2.size
  have A2 : AcX Post W pA rA be M ag tr _ _ pl F col w2 ⟨[((sm : Nat) : Int)], t, l⟩ := A1.made D2 ks2
  clear hv hku hok' hVOK hVK
  rw [Frame.finish_at]
  simp only [Act.put, Act.eval, List.getElem?_toArray, List.getElem?_cons_zero, List.getElem?_cons_succ, Option.bind_some, List.getElem_toArray, List.getElem_cons_zero, List.getElem_cons_succ, List.setIfInBounds_toArray, List.set_cons_succ, List.set_cons_zero]
  refine Win.pureOp (v := .int .i64 6) (.inl hb) rfl rfl (fun w => rfl) ?_
  simp only [Act.put, Act.eval, List.getElem?_toArray, List.getElem?_cons_zero, List.getElem?_cons_succ, Option.bind_some, List.getElem_toArray, List.getElem_cons_zero, List.getElem_cons_succ, List.setIfInBounds_toArray, List.set_cons_succ, List.set_cons_zero]
  refine Win.opsEnd ?_
  have C2' := A2.aw.crew
  have har3 := A2.aw.ar
  have all2 := A2.aw.all
  have lf2 := A2.lf
  have allc2 := A2.aw.allc
  have lfc2 := A2.lfc
  have old2 := A2.aw.old
  have ksW2 := A2.aw.ks
  clear A A1 A2 ks1 ks2 D1 D2 hpk hSk
  have hLay := C2'.desk.lay
  have gmain : ∀ b, col b = .main → b ≠ pA ∧ b ≠ rA ∧ b ≠ be := fun b hb => ⟨fun e => (by rw [e, hLay.ar.1] at hb; cases hb), fun e => (by rw [e, hLay.ar.2] at hb; cases hb), fun e => (by rw [e, hLay.sb be rfl] at hb; cases hb)⟩
  have gbl := gmain bl (lfc2 bl (by simp [blk_some]))
  have gbe : be ≠ pA ∧ be ≠ rA := ⟨fun e => (by have := hLay.ar.1; rw [← e, hLay.sb be rfl] at this; cases this), fun e => (by have := hLay.ar.2; rw [← e, hLay.sb be rfl] at this; cases this)⟩
  have hsh := C2'.sh
  have hgk2 : (gof M tr M).getD kk 0 = if (0 : Nat) = 0 then 1 else 0 := by rw [gof_get _ _ _ _ hkM]; simp [hkM, htr]
  have hX : (⟨#[.slice ao M ct, .slice (some ⟨bo', oo, none⟩) K co, x 2, x 3, x 4, .pointer (some ⟨pA, 0, none⟩), x 6, .slice (some ⟨be, 0, none⟩) M M, .slice (some ⟨ba, 0, none⟩) M ca, .bool true, x 10, x 11, x 12, x 13, x 14, .int .u64 sm, .slice (some ⟨bl, 0, none⟩) M cl, .int .i64 i, .int .i64 kk, .int .i64 6, x 20, x 21, x 22, x 23, x 24, x 25, x 26, x 27, x 28, x 29, x 30, x 31, x 32, x 33, x 34, x 35, x 36, x 37, x 38, x 39, x 40, x 41, x 42, x 43, x 44, x 45, x 46, x 47, x 48, x 49, x 50, x 51, x 52, x 53, x 54, x 55, x 56, x 57, x 58, x 59, x 60, x 61, x 62, x 63, x 64, x 65, x 66, x 67, x 68, x 69, x 70, x 71, x 72, x 73, x 74, x 75, x 76, x 77, x 78, .int .i64 i, .slice (some ⟨bo', oo, none⟩) K co, .int .i64 (K : Int), .bool true, .bool true, .slice ao M ct, .int .i64 (M : Int), .bool true, .bool true, .bool true, .bool true, .bool true, x 91, x 92, .slice (some ⟨bo', oo, none⟩) K co, .int .i64 i, .pointer (some ⟨bo', oo + i, none⟩), .int .u8 ov, .int .i64 ov, .slice ao M ct, .int .i64 (M : Int), .int .i64 kk, .slice (some ⟨ba, 0, none⟩) M ca, .int .i64 kk, .pointer (some ⟨ba, kk, none⟩), .pointer (some ⟨(ag kk).p, 0, none⟩), .int .i64 6, x 106, x 107, x 108, x 109, x 110, x 111, x 112, x 113, x 114, x 115, x 116, x 117, x 118, x 119, x 120, x 121, x 122, x 123, x 124, x 125, x 126, x 127, x 128, x 129, x 130, x 131, x 132, x 133, x 134, x 135, x 136, x 137, x 138, x 139, x 140, x 141, x 142, x 143, x 144, x 145, x 146, x 147, x 148, x 149, x 150, x 151, x 152, x 153, x 154, x 155, x 156, x 157, x 158, x 159, x 160, x 161, x 162, x 163, x 164, x 165, x 166, x 167, x 168, x 169, x 170, x 171, x 172, x 173, x 174, x 175, x 176, x 177, x 178, x 179, x 180], []⟩ : Act) = ⟨T181 (fun j => match j with | 0 => .slice ao M ct | 1 => .slice (some ⟨bo', oo, none⟩) K co | 5 => .pointer (some ⟨pA, 0, none⟩) | 7 => .slice (some ⟨be, 0, none⟩) M M | 8 => .slice (some ⟨ba, 0, none⟩) M ca | 9 => .bool true | 15 => .int .u64 sm | 16 => .slice (some ⟨bl, 0, none⟩) M cl | 17 => .int .i64 i | 18 => .int .i64 kk | 19 => .int .i64 6 | 79 => .int .i64 i | 80 => .slice (some ⟨bo', oo, none⟩) K co | 81 => .int .i64 (K : Int) | 82 => .bool true | 83 => .bool true | 84 => .slice ao M ct | 85 => .int .i64 (M : Int) | 86 => .bool true | 87 => .bool true | 88 => .bool true | 89 => .bool true | 90 => .bool true | 93 => .slice (some ⟨bo', oo, none⟩) K co | 94 => .int .i64 i | 95 => .pointer (some ⟨bo', oo + i, none⟩) | 96 => .int .u8 ov | 97 => .int .i64 ov | 98 => .slice ao M ct | 99 => .int .i64 (M : Int) | 100 => .int .i64 kk | 101 => .slice (some ⟨ba, 0, none⟩) M ca | 102 => .int .i64 kk | 103 => .pointer (some ⟨ba, kk, none⟩) | 104 => .pointer (some ⟨(ag kk).p, 0, none⟩) | 105 => .int .i64 6 | j => x j), []⟩ := rfl
  rw [hX]
  obtain ⟨y, hy⟩ : ∃ y : Nat → Value, y = (fun j => match j with | 0 => .slice ao M ct | 1 => .slice (some ⟨bo', oo, none⟩) K co | 5 => .pointer (some ⟨pA, 0, none⟩) | 7 => .slice (some ⟨be, 0, none⟩) M M | 8 => .slice (some ⟨ba, 0, none⟩) M ca | 9 => .bool true | 15 => .int .u64 sm | 16 => .slice (some ⟨bl, 0, none⟩) M cl | 17 => .int .i64 i | 18 => .int .i64 kk | 19 => .int .i64 6 | 79 => .int .i64 i | 80 => .slice (some ⟨bo', oo, none⟩) K co | 81 => .int .i64 (K : Int) | 82 => .bool true | 83 => .bool true | 84 => .slice ao M ct | 85 => .int .i64 (M : Int) | 86 => .bool true | 87 => .bool true | 88 => .bool true | 89 => .bool true | 90 => .bool true | 93 => .slice (some ⟨bo', oo, none⟩) K co | 94 => .int .i64 i | 95 => .pointer (some ⟨bo', oo + i, none⟩) | 96 => .int .u8 ov | 97 => .int .i64 ov | 98 => .slice ao M ct | 99 => .int .i64 (M : Int) | 100 => .int .i64 kk | 101 => .slice (some ⟨ba, 0, none⟩) M ca | 102 => .int .i64 kk | 103 => .pointer (some ⟨ba, kk, none⟩) | 104 => .pointer (some ⟨(ag kk).p, 0, none⟩) | 105 => .int .i64 6 | j => x j) := ⟨_, rfl⟩
  have y0 : y 0 = x 0 := (congrFun hy 0).trans hx0.symm
  have y1 : y 1 = x 1 := (congrFun hy 1).trans hx1.symm
  have y5 : y 5 = .pointer (some ⟨pA, 0, none⟩) := (congrFun hy 5).trans rfl
  have y7 : y 7 = .slice (some ⟨be, 0, none⟩) M M := (congrFun hy 7).trans rfl
  have y8 : y 8 = x 8 := (congrFun hy 8).trans hx8.symm
  have y15 : y 15 = .int .u64 sm := (congrFun hy 15).trans rfl
  have y16 : y 16 = .slice (some ⟨bl, 0, none⟩) M cl := (congrFun hy 16).trans rfl
  have y17 : y 17 = .int .i64 i := (congrFun hy 17).trans rfl
  have y18 : y 18 = .int .i64 kk := (congrFun hy 18).trans rfl
  have y19 : y 19 = .int .i64 6 := (congrFun hy 19).trans rfl
  rw [← hy]
  clear hX hy

  refine C2'.desk.code (c := acR2 Try.f5) (own := own2 pA rA be (.slice (some ⟨bl, 0, none⟩) M cl)) (S := own2 pA rA be (.slice (some ⟨bl, 0, none⟩) M cl)) (A := fun w => (Ar w pA rA ⟨[((sm : Nat) : Int)], t, l⟩ ∧ Rw 5 1 W.heap.size w (.slice (some ⟨bl, 0, none⟩) M cl) M (lcells tr M)) ∧ endsSh be M w (gof M tr M)) (priv_two _ _ _ _ _ _ _ _ _ _) ⟨⟨har3, lf2⟩, hsh⟩ (fun b hb => by
      rcases hb with ((rfl | rfl) | hb) | rfl
      · rw [hLay.ar.1]; rfl
      · rw [hLay.ar.2]; rfl
      · rw [lfc2 b hb]; rfl
      · rw [hLay.sb b rfl]; rfl) (R := fun a' o w' => o = own2 pA rA be (.slice (some ⟨bl, 0, none⟩) M cl) ∧ Fr2 y (sm) kk a' ∧ ((Ar w' pA rA ⟨[((sm : Nat) : Int)], t + 1, 0⟩ ∧ Rw 5 1 W.heap.size w' (.slice (some ⟨bl, 0, none⟩) M cl) M (lcells tr M)) ∧ endsSh be M w' (gof M tr M))) (fun a' o => (priv_two _ _ _ _ _ _ _ _ _ _).tied _ o) (stok_at rfl rfl (by simp) (by kernel_rfl)) (fun wt Q hA hz hcell hQ => ?_) ?_
  · obtain ⟨⟨ha, hlf⟩, hes⟩ := hA
    obtain ⟨_, c3, cur, he3, _, hrow, _⟩ := hlf.own.2.resolve_left (fun z => by cases z.1)
    cases he3
    obtain ⟨_, _, he4, _, hcs⟩ := hlf.at hM0 (by decide)
    cases he4
    refine ac_lone2_zero (t := t) (l := l) (sm := sm) (r := 0) (cl := cl) y5 y7 y15 y16 y18 y19 hkM hM hcl (by omega) (by omega) (by omega) hrow ?_ ((ends_cell hes hkM).1.trans (by rw [hgk2])) ha ⟨gbe.1, gbe.2, gbl.1, gbl.2.1⟩ gbl.2.2 rfl fun a' w' hf ha' hk' => ?_
    · rw [hcs kk (by omega), lcells_get _ _ _ hkM, htr]
    · refine hQ _ _ _ (fun z hz' => .inl hz') ⟨rfl, hf, ⟨ha', hlf.keep hk' (fun b hb => by rw [blk_some, List.mem_singleton] at hb; subst hb; simp [gbl.1, gbl.2.1])⟩, ?_⟩ ((ks_of_kp hk').mono fun b _ z => ?_)
      · exact ⟨hk'.row (by simp [gbe.1, gbe.2]) hes.1, hes.2⟩
      · simp at z; exact .inl (.inl z)
  intro a' o w5 _ hR ks5 D5
  obtain ⟨_, hf, ⟨ha5, hlf5⟩, hes5⟩ := hR
  have hat := hf.at
  have C5 := C2'.keep D5 ks5 (fun b _ hb => by
    rcases hb with ((rfl | rfl) | hb) | rfl
    · exact .inr (.inl hLay.ar.1)
    · exact .inr (.inl hLay.ar.2)
    · exact .inl (lfc2 b hb)
    · exact .inr (.inr (hLay.sb b rfl))) hes5
  have hzW2 := ksW2.size
  have hba : ba ≠ bl := fun e => by
    obtain ⟨_, c1, h1⟩ := all2.block ba (by simp [blk_some])
    obtain ⟨_, c2, h2⟩ := lf2.block bl (by simp [blk_some])
    rw [e] at h1
    have := h1.symm.trans h2
    simp at this
  have all5 := (priv_rw _ _ _ _ _ _).st _ _ all2 fun b hb => ks5.block b ((priv_rw _ _ _ _ _ _).lt _ _ all2 hb) fun z => by
    have gb := gmain b (allc2 b hb)
    rw [blk_some, List.mem_singleton] at hb
    rcases z with ((z | z) | z) | z
    · exact gb.1 z
    · exact gb.2.1 z
    · rw [blk_some, List.mem_singleton] at z; exact hba (hb.symm.trans z)
    · exact gb.2.2 z
  have ksW5 : Ks (fun _ => False) W w5 := ksW2.then ks5 fun b hb z => by
    have hm := old2 b hb
    have gb := gmain b hm
    rcases z with ((z | z) | z) | z
    · exact gb.1 z
    · exact gb.2.1 z
    · have := (lf2.block b z).1; omega
    · exact gb.2.2 z
  have A5 : AcX Post W pA rA be M ag tr _ _ pl F col w5 ⟨[((sm : Nat) : Int)], t + 1, 0⟩ := ⟨⟨C5, ha5, all5, allc2, old2, ksW5⟩, hlf5, lfc2⟩
  rw [hat]
  obtain ⟨u, hu⟩ : ∃ u : Nat → Value, u = fun j => a'.tmps.getD j undef := ⟨_, rfl⟩
  have u0 : u 0 = x 0 := by rw [hu]; exact hf.s0.trans y0
  have u1 : u 1 = x 1 := by rw [hu]; exact hf.s1.trans y1
  have u5 : u 5 = x 5 := by rw [hu]; exact hf.s5.trans (y5.trans hx5.symm)
  have u7 : u 7 = x 7 := by rw [hu]; exact hf.s7.trans (y7.trans hx7.symm)
  have u8 : u 8 = x 8 := by rw [hu]; exact hf.s8.trans y8
  have u9 : u 9 = .bool true := by rw [hu]; exact hf.s9
  have u15 : u 15 = .int .u64 (sm : Nat) := by rw [hu]; exact hf.s15
  have u16 : u 16 = x 16 := by rw [hu]; exact hf.s16.trans (y16.trans hx16.symm)
  have u17 : u 17 = .int .i64 i := by rw [hu]; exact hf.s17.trans y17
  rw [← hu]
  clear hu hat hf
  refine Win.inBlock ?_
  simp only [T181]
  refine Win.region ?_
  simp only [List.size_toArray, List.length_cons, List.length_nil, Nat.reduceAdd, List.range, List.range.loop]
  refine Win.pureOp (v := .int .i64 i) (.inl hb) rfl rfl (fun w => by rw [Sem.runT_eq]; simp [go_sem, execOp, Act.eval, u17]; try (first | omega | rfl | exact ⟨rfl, rfl⟩ | kernel_rfl)) ?_
  simp only [Act.put, Act.eval, List.getElem?_toArray, List.getElem?_cons_zero, List.getElem?_cons_succ, Option.bind_some, List.getElem_toArray, List.getElem_cons_zero, List.getElem_cons_succ, List.setIfInBounds_toArray, List.set_cons_succ, List.set_cons_zero]
  refine Win.pureOp (v := .int .i64 ((i + 1 : Nat) : Int)) (.inl hb) rfl rfl (fun w => by rw [Sem.runT_eq]; simp [go_sem, execOp, Act.eval, hw]; try (first | omega | rfl | exact ⟨rfl, rfl⟩ | kernel_rfl)) ?_
  simp only [Act.put, Act.eval, List.getElem?_toArray, List.getElem?_cons_zero, List.getElem?_cons_succ, Option.bind_some, List.getElem_toArray, List.getElem_cons_zero, List.getElem_cons_succ, List.setIfInBounds_toArray, List.set_cons_succ, List.set_cons_zero]
  refine Win.pureOp (v := .int .i64 ((i + 1 : Nat) : Int)) (.inl hb) rfl rfl (fun w => by rw [Sem.runT_eq]; simp [go_sem, execOp, Act.eval]; try (first | omega | rfl | exact ⟨rfl, rfl⟩ | kernel_rfl)) ?_
  simp only [Act.put, Act.eval, List.getElem?_toArray, List.getElem?_cons_zero, List.getElem?_cons_succ, Option.bind_some, List.getElem_toArray, List.getElem_cons_zero, List.getElem_cons_succ, List.setIfInBounds_toArray, List.set_cons_succ, List.set_cons_zero]
  refine Win.opsEnd ?_
  exact H (fun j => match j with | 17 => .int .i64 ((i + 1 : Nat) : Int) | 91 => .int .i64 i | 92 => .int .i64 ((i + 1 : Nat) : Int) | j => u j) pl F col w5 A5 u0 u1 u5 u7 u8 u9 u15 u16 rfl
end
end Go.Proofs.Ytodcnhodbeakiaa

namespace Go.Proofs.Ytodcnhodbeakiaa
set_option linter.unusedVariables false
set_option linter.unusedSimpArgs false
set_option maxRecDepth 100000
open Go.Conc
open Go.ConcN (upd_ne upd_same)

theorem stop_over (w : World) (p : Nat) (h6 : w.cell? ⟨p, 6, none⟩ = some (.bool true)) : Calls Try.prog 18 #[.pointer (some ⟨p, 0, none⟩)] w fun e w' => e = .returned (.tuple #[]) ∧ w' = w := by
  go_enter Try.func18, Try.ntmps18
  go_wp2_with (go_at_call 16; refine (done_at _ p true h6).mono ?_; rintro e w1 ⟨rfl, rfl⟩)
  simp [bodyPost, results, Try.results18]

section
variable {Post : Value → World → Prop} {W : World} {pA rA be M k n K : Nat} {ag : Nat → Ag} {va vl : Value} {pl : Nat → Option Place} {F : Nat → Option (Nat × Nat)} {col : Nat → Col} {w w' : World} {g : List Int} {s : St}

/-- THE SECOND LOOP: the agents step in whatever order. -/
theorem ac_loop2 {args : Array Value} {O : List Int} {ao bo : Option Addr} {ct co : Nat} (hO : Us W bo O) (hOK : K = O.length) (hK : K ≤ 200) (hM : M ≤ 8)
    (H : ∀ (x : Nat → Value) tr pl F col w sm t l, AcX Post W pA rA be M ag tr va vl pl F col w ⟨[((sm : Nat) : Int)], t, l⟩ → sm ≤ 200 → t ≤ 400 → (∀ j, tr j ≤ 255) → x 0 = .slice ao M ct → x 1 = .slice bo K co → x 5 = .pointer (some ⟨pA, 0, none⟩) → x 7 = .slice (some ⟨be, 0, none⟩) M M → x 8 = va → x 9 = .bool true → x 15 = .int .u64 (sm : Nat) → x 16 = vl → Win Try.prog Post pl n 0 (gor ((Frame.enter Try.prog 5 args .normal).at ⟨T181 x, []⟩ [.code (acA2 Try.f5)]) []) w) :
    ∀ d i, i + d = K → ∀ (x : Nat → Value) tr pl F col w sm t l, AcX Post W pA rA be M ag tr va vl pl F col w ⟨[((sm : Nat) : Int)], t, l⟩ → sm ≤ i → t ≤ 2 * i → (∀ j, tr j ≤ 255) → x 0 = .slice ao M ct → x 1 = .slice bo K co → x 5 = .pointer (some ⟨pA, 0, none⟩) → x 7 = .slice (some ⟨be, 0, none⟩) M M → x 8 = va → x 9 = .bool true → x 15 = .int .u64 (sm : Nat) → x 16 = vl → x 17 = .int .i64 i →
      Win Try.prog Post pl n 0 (gor ((Frame.enter Try.prog 5 args .normal).at ⟨T181 x, []⟩ (.code (acX2 Try.f5) :: acK2 Try.f5)) []) w := by
  have hexit : ∀ (i : Nat), ¬ (i < K ∧ 0 < M) → ∀ (x : Nat → Value) tr pl F col w sm t l, AcX Post W pA rA be M ag tr va vl pl F col w ⟨[((sm : Nat) : Int)], t, l⟩ → sm ≤ 200 → t ≤ 400 → (∀ j, tr j ≤ 255) → x 0 = .slice ao M ct → x 1 = .slice bo K co → x 5 = .pointer (some ⟨pA, 0, none⟩) → x 7 = .slice (some ⟨be, 0, none⟩) M M → x 8 = va → x 9 = .bool true → x 15 = .int .u64 (sm : Nat) → x 16 = vl → x 17 = .int .i64 i →
      Win Try.prog Post pl n 0 (gor ((Frame.enter Try.prog 5 args .normal).at ⟨T181 x, []⟩ (.code (acX2 Try.f5) :: acK2 Try.f5)) []) w := by
    intro i hno x tr pl F col w sm t l A hs ht htr hx0 hx1 hx5 hx7 hx8 hx9 hx15 hx16 hx17
    have hb : (Frame.enter Try.prog 5 args .normal).kind = .normal := rfl
    have hX : acK2 Try.f5 = [.inLoop (acX2 Try.f5), .inBlock 2, .code (acA2 Try.f5)] := rfl
    rw [hX]
    obtain ⟨KK, hKK⟩ : ∃ KK, KK = Item.inLoop (acX2 Try.f5) := ⟨_, rfl⟩
    obtain ⟨K2, hK2⟩ : ∃ K2, K2 = acA2 Try.f5 := ⟨_, rfl⟩
    have hfin := H
    rw [← hK2] at hfin
    have hKe : exitTo 2 [KK, .inBlock 2, .code K2] = some [.code K2] := by rw [hKK]; rfl
    rw [← hKK, ← hK2]
    clear hKK hK2 H
    simp only [acX2, bodyOf, Try.f5, codeL, codeR, blockOf, loopOf, Option.getD_some, T181]
    simp only [hx0, hx1, hx5, hx7, hx8, hx9, hx15, hx16, hx17]
    by_cases hiK : i < K
    · refine Win.seq ?_
      refine Win.seq ?_
      refine Win.region ?_
      simp only [List.size_toArray, List.length_cons, List.length_nil, Nat.reduceAdd, List.range, List.range.loop]
      refine Win.pureOp (v := .int .i64 i) (.inl hb) rfl rfl (fun w => by rw [Sem.runT_eq]; simp [go_sem, execOp, Act.eval]; try (first | omega | rfl | exact ⟨rfl, rfl⟩ | kernel_rfl)) ?_
      simp only [Act.put, Act.eval, List.getElem?_toArray, List.getElem?_cons_zero, List.getElem?_cons_succ, Option.bind_some, List.getElem_toArray, List.getElem_cons_zero, List.getElem_cons_succ, List.setIfInBounds_toArray, List.set_cons_succ, List.set_cons_zero]
      refine Win.pureOp (v := .slice bo K co) (.inl hb) rfl rfl (fun w => by rw [Sem.runT_eq]; simp [go_sem, execOp, Act.eval]; try (first | omega | rfl | exact ⟨rfl, rfl⟩ | kernel_rfl)) ?_
      simp only [Act.put, Act.eval, List.getElem?_toArray, List.getElem?_cons_zero, List.getElem?_cons_succ, Option.bind_some, List.getElem_toArray, List.getElem_cons_zero, List.getElem_cons_succ, List.setIfInBounds_toArray, List.set_cons_succ, List.set_cons_zero]
      refine Win.pureOp (v := .int .i64 (K : Int)) (.inl hb) rfl rfl (fun w => by rw [Sem.runT_eq]; simp [go_sem, execOp, Act.eval]; try (first | omega | rfl | exact ⟨rfl, rfl⟩ | kernel_rfl)) ?_
      simp only [Act.put, Act.eval, List.getElem?_toArray, List.getElem?_cons_zero, List.getElem?_cons_succ, Option.bind_some, List.getElem_toArray, List.getElem_cons_zero, List.getElem_cons_succ, List.setIfInBounds_toArray, List.set_cons_succ, List.set_cons_zero]
      refine Win.pureOp (v := .bool true) (.inl hb) rfl rfl (fun w => by rw [Sem.runT_eq]; simp [go_sem, execOp, Act.eval]; try (first | omega | rfl | exact ⟨rfl, rfl⟩ | kernel_rfl)) ?_
      simp only [Act.put, Act.eval, List.getElem?_toArray, List.getElem?_cons_zero, List.getElem?_cons_succ, Option.bind_some, List.getElem_toArray, List.getElem_cons_zero, List.getElem_cons_succ, List.setIfInBounds_toArray, List.set_cons_succ, List.set_cons_zero]
      refine Win.pureOp (v := .bool true) (.inl hb) rfl rfl (fun w => by rw [Sem.runT_eq]; simp [go_sem, execOp, Act.eval]; try (first | omega | rfl | exact ⟨rfl, rfl⟩ | kernel_rfl)) ?_
      simp only [Act.put, Act.eval, List.getElem?_toArray, List.getElem?_cons_zero, List.getElem?_cons_succ, Option.bind_some, List.getElem_toArray, List.getElem_cons_zero, List.getElem_cons_succ, List.setIfInBounds_toArray, List.set_cons_succ, List.set_cons_zero]
      refine Win.pureOp (v := .slice ao M ct) (.inl hb) rfl rfl (fun w => by rw [Sem.runT_eq]; simp [go_sem, execOp, Act.eval]; try (first | omega | rfl | exact ⟨rfl, rfl⟩ | kernel_rfl)) ?_
      simp only [Act.put, Act.eval, List.getElem?_toArray, List.getElem?_cons_zero, List.getElem?_cons_succ, Option.bind_some, List.getElem_toArray, List.getElem_cons_zero, List.getElem_cons_succ, List.setIfInBounds_toArray, List.set_cons_succ, List.set_cons_zero]
      refine Win.pureOp (v := .int .i64 (M : Int)) (.inl hb) rfl rfl (fun w => by rw [Sem.runT_eq]; simp [go_sem, execOp, Act.eval]; try (first | omega | rfl | exact ⟨rfl, rfl⟩ | kernel_rfl)) ?_
      simp only [Act.put, Act.eval, List.getElem?_toArray, List.getElem?_cons_zero, List.getElem?_cons_succ, Option.bind_some, List.getElem_toArray, List.getElem_cons_zero, List.getElem_cons_succ, List.setIfInBounds_toArray, List.set_cons_succ, List.set_cons_zero]
      refine Win.pureOp (v := .bool false) (.inl hb) rfl rfl (fun w => by rw [Sem.runT_eq]; simp [go_sem, execOp, Act.eval]; try (first | omega | rfl | exact ⟨rfl, rfl⟩ | kernel_rfl)) ?_
      simp only [Act.put, Act.eval, List.getElem?_toArray, List.getElem?_cons_zero, List.getElem?_cons_succ, Option.bind_some, List.getElem_toArray, List.getElem_cons_zero, List.getElem_cons_succ, List.setIfInBounds_toArray, List.set_cons_succ, List.set_cons_zero]
      refine Win.pureOp (v := .bool false) (.inl hb) rfl rfl (fun w => by rw [Sem.runT_eq]; simp [go_sem, execOp, Act.eval]; try (first | omega | rfl | exact ⟨rfl, rfl⟩ | kernel_rfl)) ?_
      simp only [Act.put, Act.eval, List.getElem?_toArray, List.getElem?_cons_zero, List.getElem?_cons_succ, Option.bind_some, List.getElem_toArray, List.getElem_cons_zero, List.getElem_cons_succ, List.setIfInBounds_toArray, List.set_cons_succ, List.set_cons_zero]
      refine Win.pureOp (v := .bool false) (.inl hb) rfl rfl (fun w => by rw [Sem.runT_eq]; simp [go_sem, execOp, Act.eval]; try (first | omega | rfl | exact ⟨rfl, rfl⟩ | kernel_rfl)) ?_
      simp only [Act.put, Act.eval, List.getElem?_toArray, List.getElem?_cons_zero, List.getElem?_cons_succ, Option.bind_some, List.getElem_toArray, List.getElem_cons_zero, List.getElem_cons_succ, List.setIfInBounds_toArray, List.set_cons_succ, List.set_cons_zero]
      refine Win.opSkip rfl rfl ?_
      simp only [Act.put, Act.eval, List.getElem?_toArray, List.getElem?_cons_zero, List.getElem?_cons_succ, Option.bind_some, List.getElem_toArray, List.getElem_cons_zero, List.getElem_cons_succ, List.setIfInBounds_toArray, List.set_cons_succ, List.set_cons_zero]
      refine Win.pureOp (v := .bool false) (.inl hb) rfl rfl (fun w => by rw [Sem.runT_eq]; simp [go_sem, execOp, Act.eval]; try (first | omega | rfl | exact ⟨rfl, rfl⟩ | kernel_rfl)) ?_
      simp only [Act.put, Act.eval, List.getElem?_toArray, List.getElem?_cons_zero, List.getElem?_cons_succ, Option.bind_some, List.getElem_toArray, List.getElem_cons_zero, List.getElem_cons_succ, List.setIfInBounds_toArray, List.set_cons_succ, List.set_cons_zero]
      refine Win.opsEnd ?_
      refine Win.cond (t := false) rfl ?_
      simp only [if_true, if_false, Bool.false_eq_true]
      refine Win.exit hKe ?_
      exact hfin (fun j => match j with | 0 => .slice ao M ct | 1 => .slice bo K co | 5 => .pointer (some ⟨pA, 0, none⟩) | 7 => .slice (some ⟨be, 0, none⟩) M M | 8 => va | 9 => .bool true | 15 => .int .u64 sm | 16 => vl | 17 => .int .i64 i | 79 => .int .i64 i | 80 => .slice bo K co | 81 => .int .i64 (K : Int) | 82 => .bool true | 83 => .bool true | 84 => .slice ao M ct | 85 => .int .i64 (M : Int) | 86 => .bool false | 87 => .bool false | 88 => .bool false | 89 => undef | 90 => .bool false | j => x j) tr pl F col w sm t l A hs ht htr rfl rfl rfl rfl rfl rfl rfl rfl
    · refine Win.seq ?_
      refine Win.seq ?_
      refine Win.region ?_
      simp only [List.size_toArray, List.length_cons, List.length_nil, Nat.reduceAdd, List.range, List.range.loop]
      refine Win.pureOp (v := .int .i64 i) (.inl hb) rfl rfl (fun w => by rw [Sem.runT_eq]; simp [go_sem, execOp, Act.eval]; try (first | omega | rfl | exact ⟨rfl, rfl⟩ | kernel_rfl)) ?_
      simp only [Act.put, Act.eval, List.getElem?_toArray, List.getElem?_cons_zero, List.getElem?_cons_succ, Option.bind_some, List.getElem_toArray, List.getElem_cons_zero, List.getElem_cons_succ, List.setIfInBounds_toArray, List.set_cons_succ, List.set_cons_zero]
      refine Win.pureOp (v := .slice bo K co) (.inl hb) rfl rfl (fun w => by rw [Sem.runT_eq]; simp [go_sem, execOp, Act.eval]; try (first | omega | rfl | exact ⟨rfl, rfl⟩ | kernel_rfl)) ?_
      simp only [Act.put, Act.eval, List.getElem?_toArray, List.getElem?_cons_zero, List.getElem?_cons_succ, Option.bind_some, List.getElem_toArray, List.getElem_cons_zero, List.getElem_cons_succ, List.setIfInBounds_toArray, List.set_cons_succ, List.set_cons_zero]
      refine Win.pureOp (v := .int .i64 (K : Int)) (.inl hb) rfl rfl (fun w => by rw [Sem.runT_eq]; simp [go_sem, execOp, Act.eval]; try (first | omega | rfl | exact ⟨rfl, rfl⟩ | kernel_rfl)) ?_
      simp only [Act.put, Act.eval, List.getElem?_toArray, List.getElem?_cons_zero, List.getElem?_cons_succ, Option.bind_some, List.getElem_toArray, List.getElem_cons_zero, List.getElem_cons_succ, List.setIfInBounds_toArray, List.set_cons_succ, List.set_cons_zero]
      refine Win.pureOp (v := .bool false) (.inl hb) rfl rfl (fun w => by rw [Sem.runT_eq]; simp [go_sem, execOp, Act.eval]; try (first | omega | rfl | exact ⟨rfl, rfl⟩ | kernel_rfl)) ?_
      simp only [Act.put, Act.eval, List.getElem?_toArray, List.getElem?_cons_zero, List.getElem?_cons_succ, Option.bind_some, List.getElem_toArray, List.getElem_cons_zero, List.getElem_cons_succ, List.setIfInBounds_toArray, List.set_cons_succ, List.set_cons_zero]
      refine Win.pureOp (v := .bool false) (.inl hb) rfl rfl (fun w => by rw [Sem.runT_eq]; simp [go_sem, execOp, Act.eval]; try (first | omega | rfl | exact ⟨rfl, rfl⟩ | kernel_rfl)) ?_
      simp only [Act.put, Act.eval, List.getElem?_toArray, List.getElem?_cons_zero, List.getElem?_cons_succ, Option.bind_some, List.getElem_toArray, List.getElem_cons_zero, List.getElem_cons_succ, List.setIfInBounds_toArray, List.set_cons_succ, List.set_cons_zero]
      refine Win.opSkip rfl rfl ?_
      simp only [Act.put, Act.eval, List.getElem?_toArray, List.getElem?_cons_zero, List.getElem?_cons_succ, Option.bind_some, List.getElem_toArray, List.getElem_cons_zero, List.getElem_cons_succ, List.setIfInBounds_toArray, List.set_cons_succ, List.set_cons_zero]
      refine Win.opSkip rfl rfl ?_
      simp only [Act.put, Act.eval, List.getElem?_toArray, List.getElem?_cons_zero, List.getElem?_cons_succ, Option.bind_some, List.getElem_toArray, List.getElem_cons_zero, List.getElem_cons_succ, List.setIfInBounds_toArray, List.set_cons_succ, List.set_cons_zero]
      refine Win.opSkip rfl rfl ?_
      simp only [Act.put, Act.eval, List.getElem?_toArray, List.getElem?_cons_zero, List.getElem?_cons_succ, Option.bind_some, List.getElem_toArray, List.getElem_cons_zero, List.getElem_cons_succ, List.setIfInBounds_toArray, List.set_cons_succ, List.set_cons_zero]
      refine Win.pureOp (v := .bool false) (.inl hb) rfl rfl (fun w => by rw [Sem.runT_eq]; simp [go_sem, execOp, Act.eval]; try (first | omega | rfl | exact ⟨rfl, rfl⟩ | kernel_rfl)) ?_
      simp only [Act.put, Act.eval, List.getElem?_toArray, List.getElem?_cons_zero, List.getElem?_cons_succ, Option.bind_some, List.getElem_toArray, List.getElem_cons_zero, List.getElem_cons_succ, List.setIfInBounds_toArray, List.set_cons_succ, List.set_cons_zero]
      refine Win.pureOp (v := .bool false) (.inl hb) rfl rfl (fun w => by rw [Sem.runT_eq]; simp [go_sem, execOp, Act.eval]; try (first | omega | rfl | exact ⟨rfl, rfl⟩ | kernel_rfl)) ?_
      simp only [Act.put, Act.eval, List.getElem?_toArray, List.getElem?_cons_zero, List.getElem?_cons_succ, Option.bind_some, List.getElem_toArray, List.getElem_cons_zero, List.getElem_cons_succ, List.setIfInBounds_toArray, List.set_cons_succ, List.set_cons_zero]
      refine Win.opSkip rfl rfl ?_
      simp only [Act.put, Act.eval, List.getElem?_toArray, List.getElem?_cons_zero, List.getElem?_cons_succ, Option.bind_some, List.getElem_toArray, List.getElem_cons_zero, List.getElem_cons_succ, List.setIfInBounds_toArray, List.set_cons_succ, List.set_cons_zero]
      refine Win.pureOp (v := .bool false) (.inl hb) rfl rfl (fun w => by rw [Sem.runT_eq]; simp [go_sem, execOp, Act.eval]; try (first | omega | rfl | exact ⟨rfl, rfl⟩ | kernel_rfl)) ?_
      simp only [Act.put, Act.eval, List.getElem?_toArray, List.getElem?_cons_zero, List.getElem?_cons_succ, Option.bind_some, List.getElem_toArray, List.getElem_cons_zero, List.getElem_cons_succ, List.setIfInBounds_toArray, List.set_cons_succ, List.set_cons_zero]
      refine Win.opsEnd ?_
      refine Win.cond (t := false) rfl ?_
      simp only [if_true, if_false, Bool.false_eq_true]
      refine Win.exit hKe ?_
      exact hfin (fun j => match j with | 0 => .slice ao M ct | 1 => .slice bo K co | 5 => .pointer (some ⟨pA, 0, none⟩) | 7 => .slice (some ⟨be, 0, none⟩) M M | 8 => va | 9 => .bool true | 15 => .int .u64 sm | 16 => vl | 17 => .int .i64 i | 79 => .int .i64 i | 80 => .slice bo K co | 81 => .int .i64 (K : Int) | 82 => .bool false | 83 => .bool false | 84 => undef | 85 => undef | 86 => undef | 87 => .bool false | 88 => .bool false | 89 => undef | 90 => .bool false | j => x j) tr pl F col w sm t l A hs ht htr rfl rfl rfl rfl rfl rfl rfl rfl
  intro d
  induction d with
  | zero =>
    intro i hi x tr pl F col w sm t l A hs ht htr hx0 hx1 hx5 hx7 hx8 hx9 hx15 hx16 hx17
    exact hexit i (by omega) x tr pl F col w sm t l A (by omega) (by omega) htr hx0 hx1 hx5 hx7 hx8 hx9 hx15 hx16 hx17
  | succ d ih =>
    intro i hi x tr pl F col w sm t l A hs ht htr hx0 hx1 hx5 hx7 hx8 hx9 hx15 hx16 hx17
    by_cases hM0 : 0 < M
    · obtain ⟨b', o', hbo, hcl, h0, h255⟩ := hO i _ (List.getElem?_eq_getElem (show i < O.length by omega))
      have hcN : W.cell? ⟨b', o' + i, none⟩ = some (.int .u8 (O[i].toNat : Int)) := by rw [hcl, Int.toNat_of_nonneg h0]
      obtain ⟨kk, hkk⟩ : ∃ kk, kk = O[i].toNat % M := ⟨_, rfl⟩
      cases hr : tr kk with
      | zero =>
        refine ac_turn_zero (r := 0) A hx0 hx1 hx5 hx7 hx8 hx9 hx15 hx16 hx17 hbo (A.aw.cell hcN) (by omega) (by omega) hK hM0 hM hkk hr (by omega) (by omega) (by omega) fun x' pl' F' col' w' A' y0 y1 y5 y7 y8 y9 y15 y16 y17 => ?_
        refine Win.inLoop ?_
        exact ih (i + 1) (by omega) x' tr pl' F' col' w' sm _ _ A' (by omega) (by omega) htr (y0.trans hx0) (y1.trans hx1) (y5.trans hx5) (y7.trans hx7) (y8.trans hx8) y9 y15 (y16.trans hx16) y17
      | succ r =>
        have := htr kk
        have htr2 : ∀ j, (fun j => if j = kk then r else tr j) j ≤ 255 := by
          intro j
          show (if j = kk then r else tr j) ≤ 255
          split
          · omega
          · exact htr j
        refine ac_turn_pos (r := r) A hx0 hx1 hx5 hx7 hx8 hx9 hx15 hx16 hx17 hbo (A.aw.cell hcN) (by omega) (by omega) hK hM0 hM hkk hr (by omega) (by omega) (by omega) fun x' pl' F' col' w' A' y0 y1 y5 y7 y8 y9 y15 y16 y17 => ?_
        refine Win.inLoop ?_
        exact ih (i + 1) (by omega) x' _ pl' F' col' w' (sm + 1) _ _ A' (by omega) (by omega) htr2 (y0.trans hx0) (y1.trans hx1) (y5.trans hx5) (y7.trans hx7) (y8.trans hx8) y9 y15 (y16.trans hx16) y17
    · exact hexit i (by omega) x tr pl F col w sm t l A (by omega) (by omega) htr hx0 hx1 hx5 hx7 hx8 hx9 hx15 hx16 hx17
end
end Go.Proofs.Ytodcnhodbeakiaa

namespace Go.Proofs.Ytodcnhodbeakiaa
set_option linter.unusedVariables false
set_option linter.unusedSimpArgs false
set_option maxRecDepth 100000
open Go.Conc
open Go.ConcN (upd_ne upd_same)

theorem size_int : Try.t3.size = 1 := rfl
section
variable {W : World} {ρ : Operand → Value} {o : Oper}
theorem op_index_int (ba i n cp : Nat) {x y : Nat} (hi : i < n) (ho : o.op = .indexAddr 55 (.tmp x) (.tmp y)) (hρ : ρ (.tmp x) = .slice (some ⟨ba, 0, none⟩) n cp) (hρ' : ρ (.tmp y) = .int .i64 i) :
    (execOp ρ o).runT Try.prog W #[] = (.ok (.value (.pointer (some ⟨ba, i, none⟩))) W, #[]) := by
  have s48 := size_int
  rw [Sem.runT_eq]
  simp [go_sem, execOp, ho, hρ, hρ', hi]
  try (first | done | (simp [Addr.add, s48]; done) | (simp [Addr.add, s48]; omega) | rfl)
end
theorem gof_stop {M i : Nat} {tr : Nat → Nat} (hi : i < M) (h : tr i ≠ 0) : inc i (gof M tr M) = gof M (fun j => if j = i then 0 else tr j) M := by
  refine gof_ext (by simp [inc, gof]) fun j hj => ?_
  have hg := gof_get M tr M
  rw [inc_get _ _ _ (by rw [gof_len]; exact hj), hg i hi, hg j hj]
  by_cases e : j = i
  · subst e; rw [if_pos rfl, if_neg (fun z => h z.2), wrap_one, if_pos ⟨hj, by simp⟩]
  · simp [e]

section
variable {Post : Value → World → Prop} {W : World} {pA rA be M k n K : Nat} {ag : Nat → Ag} {va vl : Value} {pl : Nat → Option Place} {F : Nat → Option (Nat × Nat)} {col : Nat → Col} {w w' : World} {g : List Int} {s : St} {tr : Nat → Nat} {sm t : Nat} {l : Int}

/-- All but the agents lie as they lay; one agent has been stopped. -/
theorem AcW.stopped {i : Nat} (A : AcW Post W pA rA be M M ag tr va pl F col w (gof M tr M) s) (hi : i < M) (hne : tr i ≠ 0) {pl' : Nat → Option Place} {F' : Nat → Option (Nat × Nat)} {col' : Nat → Col}
    (C : Crew Post (endsSh be M) (· = be) pA rA (memV pA) 1 M ag (fun j => if j = i then .ret else ctree j (tr j)) pl' F' col' w' (inc i (gof M tr M))) (ks : Ks (fun b => col b = .ag (ag i).j ∨ col b = .sys (ag i).j ∨ col b = .shared) w w') (sm : Same F col w F' col') :
    AcW Post W pA rA be M M ag (fun j => if j = i then 0 else tr j) va pl' F' col' w' (gof M (fun j => if j = i then 0 else tr j) M) s := by
  have hcr : (fun j => if j = i then (.ret : Tree (List Int)) else ctree j (tr j)) = fun j => ctree j (if j = i then 0 else tr j) := by
    funext j
    by_cases e : j = i
    · subst e; simp [ctree]
    · simp [e]
  rw [hcr, gof_stop hi hne] at C
  have hmain : ∀ b, col b = .main → b < w.heap.size → w'.heap[b]? = w.heap[b]? := fun b hb hlt => ks.block b hlt fun z => by rw [hb] at z; rcases z with z | z | z <;> cases z
  have har : ∀ b, col b = .arena → ¬ (col b = .ag (ag i).j ∨ col b = .sys (ag i).j ∨ col b = .shared) := fun b hb z => by rw [hb] at z; rcases z with z | z | z <;> cases z
  have hL := A.crew.desk.lay
  have hcM : ∀ b, col b = .main → b < w.heap.size → col' b = .main := fun b hb hlt => (sm.co b hlt).trans hb
  have hzW := A.ks.size
  exact ⟨C, ⟨ks.row (har _ hL.ar.1) A.ar.hp, ks.row (har _ hL.ar.2) A.ar.hr⟩, (priv_rw _ _ _ _ _ _).st _ _ A.all fun b hb => hmain b (A.allc b hb) ((priv_rw _ _ _ _ _ _).lt _ _ A.all hb), fun b hb => hcM b (A.allc b hb) ((priv_rw _ _ _ _ _ _).lt _ _ A.all hb), fun b hb => hcM b (A.old b hb) (by omega), A.ks.then ks fun b hb z => by rw [A.old b hb] at z; rcases z with z | z | z <;> cases z⟩

/-- A Stop, whatever the agent is. -/
theorem ac_stop {i : Nat} (A : AcW Post W pA rA be M M ag tr va pl F col w (gof M tr M) s) (hi : i < M) {c₀ : Frame} {cs : List Frame} (hok : StOK Try.prog c₀ [])
    (H : ∀ pl' F' col' w', AcW Post W pA rA be M M ag (fun j => if j = i then 0 else tr j) va pl' F' col' w' (gof M (fun j => if j = i then 0 else tr j) M) s → Win Try.prog Post pl' n 0 (gor (c₀.finish (.tuple #[])) cs) w') :
    Win Try.prog Post pl n 0 (gor (Frame.enter Try.prog 18 #[.pointer (some ⟨(ag i).p, 0, none⟩)] .normal) (c₀ :: cs)) w := by
  cases hr : tr i with
  | zero =>
    have hst := A.crew.st i hi
    rw [hr] at hst
    obtain ⟨hpk, hSk⟩ := hst
    have D := A.crew.desk
    refine Win.calls mild D.lies hok (R := fun e w' => e = .returned (.tuple #[]) ∧ Ks (fun _ => False) (D.lies.veil.world (fun _ _ => 0) 0 w) w') (fun τ => (stop_over _ (ag i).p (by rw [veil_cell]; exact cell_of_row hSk 6)).mono (by rintro e w' ⟨h1, rfl⟩; exact ⟨h1, ks_twin0 (Ks.refl _ _)⟩)) (fun e w' h => ⟨_, h.1⟩) ?_
    intro v' w2 τ Dd hok' hVOK hVK hR
    obtain ⟨hv, hku⟩ := hR
    obtain rfl : v' = .tuple #[] := by simpa using hv
    have ks2 := ks_of_twin D.lies hVOK hVK hku
    have A2 := A.made (D.turned (D.lies.keeps hVK hVOK) ks2.size) ks2
    refine H pl F col w2 (A2.like (fun j _ => ?_) (gof_same fun j _ => ?_))
    · by_cases e : j = i
      · subst e; simp [hr]
      · simp [e]
    · by_cases e : j = i
      · subst e; simp [hr]
      · simp [e]
  | succ r =>
    refine A.crew.stops (priv_ends be M) hi (kk := 0) (φ := fun v => IntKind.wrap .u64 (v + 1)) (c := fun _ g => if r = 0 then inc i g else g) (nx := fun _ _ => ctree i r) (hl := fun g => inc i g) (by rw [hr]; rfl) fun pl' F' col' w' C' ks sm => H pl' F' col' w' (A.stopped hi (by omega) C' ks sm)


set_option maxHeartbeats 4000000 in
/-- A round of the third loop. -/
theorem ac_body3 {args : Array Value} {x : Nat → Value} {i : Nat} (A : AcW Post W pA rA be M M ag tr va pl F col w (gof M tr M) s) (hi : i < M) (hM : M ≤ 8) (hx5 : x 5 = .pointer (some ⟨pA, 0, none⟩)) (hx7 : x 7 = .slice (some ⟨be, 0, none⟩) M M) (hx8 : x 8 = va) (hx9 : x 9 = .bool true) (hx15 : x 15 = .int .u64 (sm : Nat)) (hx20 : x 20 = .int .i64 i)
    (H : ∀ (x' : Nat → Value) pl' F' col' w', AcW Post W pA rA be M M ag (fun j => if j = i then 0 else tr j) va pl' F' col' w' (gof M (fun j => if j = i then 0 else tr j) M) s → x' 5 = x 5 → x' 7 = x 7 → x' 8 = x 8 → x' 9 = .bool true → x' 15 = x 15 → x' 20 = .int .i64 ((i + 1 : Nat) : Int) →
      Win Try.prog Post pl' n 0 (gor ((Frame.enter Try.prog 5 args .normal).at ⟨T181 x', []⟩ (acK3 Try.f5)) []) w') :
    Win Try.prog Post pl n 0 (gor ((Frame.enter Try.prog 5 args .normal).at ⟨T181 x, []⟩ (.code (acX3 Try.f5) :: acK3 Try.f5)) []) w := by
  have hb : (Frame.enter Try.prog 5 args .normal).kind = .normal := rfl
  have hw := wrap_small (i := i) (by omega)
  obtain ⟨ba, ca, hva, _, hall⟩ := A.all.at (by omega) (by decide)
  have hagc : ∀ {tr' : Nat → Nat} {pl' : Nat → Option Place} {F' : Nat → Option (Nat × Nat)} {col' : Nat → Col} {w' : World}, AcW Post W pA rA be M M ag tr' (.slice (some ⟨ba, 0, none⟩) M ca) pl' F' col' w' (gof M tr' M) s → w'.cell? ⟨ba, i, none⟩ = some (.pointer (some ⟨(ag i).p, 0, none⟩)) := fun A' => by
    obtain ⟨_, _, h1, _, h2⟩ := A'.all.at (by omega) (by decide)
    cases h1
    rw [h2 i (by omega)]; simp [ptrs, hi]
  subst hva
  simp only [acX3, bodyOf, Try.f5, codeL, codeR, blockOf, loopOf, Option.getD_some, T181]
  simp only [hx5, hx7, hx8, hx9, hx15, hx20]
  refine Win.seq ?_
  refine Win.seq ?_
  refine Win.region ?_
  simp only [List.size_toArray, List.length_cons, List.length_nil, Nat.reduceAdd, List.range, List.range.loop]
  refine Win.pureOp (v := .int .i64 i) (.inl hb) rfl rfl (fun w => by rw [Sem.runT_eq]; simp [go_sem, execOp, Act.eval]; try (first | omega | rfl | exact ⟨rfl, rfl⟩ | kernel_rfl)) ?_
  simp only [Act.put, Act.eval, List.getElem?_toArray, List.getElem?_cons_zero, List.getElem?_cons_succ, Option.bind_some, List.getElem_toArray, List.getElem_cons_zero, List.getElem_cons_succ, List.setIfInBounds_toArray, List.set_cons_succ, List.set_cons_zero]
  refine Win.pureOp (v := .slice (some ⟨ba, 0, none⟩) M ca) (.inl hb) rfl rfl (fun w => by rw [Sem.runT_eq]; simp [go_sem, execOp, Act.eval]; try (first | omega | rfl | exact ⟨rfl, rfl⟩ | kernel_rfl)) ?_
  simp only [Act.put, Act.eval, List.getElem?_toArray, List.getElem?_cons_zero, List.getElem?_cons_succ, Option.bind_some, List.getElem_toArray, List.getElem_cons_zero, List.getElem_cons_succ, List.setIfInBounds_toArray, List.set_cons_succ, List.set_cons_zero]
  refine Win.pureOp (v := .int .i64 (M : Int)) (.inl hb) rfl rfl (fun w => by rw [Sem.runT_eq]; simp [go_sem, execOp, Act.eval]; try (first | omega | rfl | exact ⟨rfl, rfl⟩ | kernel_rfl)) ?_
  simp only [Act.put, Act.eval, List.getElem?_toArray, List.getElem?_cons_zero, List.getElem?_cons_succ, Option.bind_some, List.getElem_toArray, List.getElem_cons_zero, List.getElem_cons_succ, List.setIfInBounds_toArray, List.set_cons_succ, List.set_cons_zero]
  refine Win.pureOp (v := .bool true) (.inl hb) rfl rfl (fun w => by rw [Sem.runT_eq]; simp [go_sem, execOp, Act.eval]; try (first | omega | rfl | exact ⟨rfl, rfl⟩ | kernel_rfl)) ?_
  simp only [Act.put, Act.eval, List.getElem?_toArray, List.getElem?_cons_zero, List.getElem?_cons_succ, Option.bind_some, List.getElem_toArray, List.getElem_cons_zero, List.getElem_cons_succ, List.setIfInBounds_toArray, List.set_cons_succ, List.set_cons_zero]
  refine Win.opsEnd ?_
  refine Win.cond (t := true) rfl ?_
  simp only [if_true, if_false, Bool.false_eq_true]
  refine Win.skip ?_
  refine Win.seq ?_
  refine Win.block ?_
  refine Win.seq ?_
  refine Win.region ?_
  simp only [List.size_toArray, List.length_cons, List.length_nil, Nat.reduceAdd, List.range, List.range.loop]
  refine Win.pureOp (v := .slice (some ⟨ba, 0, none⟩) M ca) (.inl hb) rfl rfl (fun w => by rw [Sem.runT_eq]; simp [go_sem, execOp, Act.eval]; try (first | omega | rfl | exact ⟨rfl, rfl⟩ | kernel_rfl)) ?_
  simp only [Act.put, Act.eval, List.getElem?_toArray, List.getElem?_cons_zero, List.getElem?_cons_succ, Option.bind_some, List.getElem_toArray, List.getElem_cons_zero, List.getElem_cons_succ, List.setIfInBounds_toArray, List.set_cons_succ, List.set_cons_zero]
  refine Win.pureOp (v := .int .i64 i) (.inl hb) rfl rfl (fun w => by rw [Sem.runT_eq]; simp [go_sem, execOp, Act.eval]; try (first | omega | rfl | exact ⟨rfl, rfl⟩ | kernel_rfl)) ?_
  simp only [Act.put, Act.eval, List.getElem?_toArray, List.getElem?_cons_zero, List.getElem?_cons_succ, Option.bind_some, List.getElem_toArray, List.getElem_cons_zero, List.getElem_cons_succ, List.setIfInBounds_toArray, List.set_cons_succ, List.set_cons_zero]
  refine Win.pureOp (v := .pointer (some ⟨ba, i, none⟩)) (.inl hb) rfl rfl (fun w => op_index_ag ba i M ca hi rfl rfl rfl) ?_
  simp only [Act.put, Act.eval, List.getElem?_toArray, List.getElem?_cons_zero, List.getElem?_cons_succ, Option.bind_some, List.getElem_toArray, List.getElem_cons_zero, List.getElem_cons_succ, List.setIfInBounds_toArray, List.set_cons_succ, List.set_cons_zero]
  refine Win.lookOp (v := .pointer (some ⟨(ag i).p, 0, none⟩)) (ad := ⟨ba, i, none⟩) (x := .pointer (some ⟨(ag i).p, 0, none⟩)) (.inl hb) rfl rfl (hagc A) (fun w hc => by rw [Sem.runT_eq]; simp [go_sem, execOp, Act.eval, hc]) ?_
  simp only [Act.put, Act.eval, List.getElem?_toArray, List.getElem?_cons_zero, List.getElem?_cons_succ, Option.bind_some, List.getElem_toArray, List.getElem_cons_zero, List.getElem_cons_succ, List.setIfInBounds_toArray, List.set_cons_succ, List.set_cons_zero]
  refine Win.enter (f := 18) (args := #[.pointer (some ⟨(ag i).p, 0, none⟩)]) (.inl hb) rfl rfl (fun d => ⟨#[], call_enter mild.toMild Try.func18 rfl rfl rfl rfl _ _ (by simp [Act.eval]), fun e he => by simp at he⟩) ?_
  refine ac_stop A hi (stok_at rfl rfl (by simp) (by kernel_rfl)) fun pl2 F2 col2 w2 A2 => ?_
  rw [Frame.finish_at]
  simp only [Act.put, Act.eval, List.getElem?_toArray, List.getElem?_cons_zero, List.getElem?_cons_succ, Option.bind_some, List.getElem_toArray, List.getElem_cons_zero, List.getElem_cons_succ, List.setIfInBounds_toArray, List.set_cons_succ, List.set_cons_zero]
  refine Win.opsEnd ?_
  refine Win.seq ?_
  refine Win.region ?_
  simp only [List.size_toArray, List.length_cons, List.length_nil, Nat.reduceAdd, List.range, List.range.loop]
  refine Win.pureOp (v := .slice (some ⟨ba, 0, none⟩) M ca) (.inl hb) rfl rfl (fun w => by rw [Sem.runT_eq]; simp [go_sem, execOp, Act.eval]; try (first | omega | rfl | exact ⟨rfl, rfl⟩ | kernel_rfl)) ?_
  simp only [Act.put, Act.eval, List.getElem?_toArray, List.getElem?_cons_zero, List.getElem?_cons_succ, Option.bind_some, List.getElem_toArray, List.getElem_cons_zero, List.getElem_cons_succ, List.setIfInBounds_toArray, List.set_cons_succ, List.set_cons_zero]
  refine Win.pureOp (v := .int .i64 i) (.inl hb) rfl rfl (fun w => by rw [Sem.runT_eq]; simp [go_sem, execOp, Act.eval]; try (first | omega | rfl | exact ⟨rfl, rfl⟩ | kernel_rfl)) ?_
  simp only [Act.put, Act.eval, List.getElem?_toArray, List.getElem?_cons_zero, List.getElem?_cons_succ, Option.bind_some, List.getElem_toArray, List.getElem_cons_zero, List.getElem_cons_succ, List.setIfInBounds_toArray, List.set_cons_succ, List.set_cons_zero]
  refine Win.pureOp (v := .pointer (some ⟨ba, i, none⟩)) (.inl hb) rfl rfl (fun w => op_index_ag ba i M ca hi rfl rfl rfl) ?_
  simp only [Act.put, Act.eval, List.getElem?_toArray, List.getElem?_cons_zero, List.getElem?_cons_succ, Option.bind_some, List.getElem_toArray, List.getElem_cons_zero, List.getElem_cons_succ, List.setIfInBounds_toArray, List.set_cons_succ, List.set_cons_zero]
  refine Win.lookOp (v := .pointer (some ⟨(ag i).p, 0, none⟩)) (ad := ⟨ba, i, none⟩) (x := .pointer (some ⟨(ag i).p, 0, none⟩)) (.inl hb) rfl rfl (hagc A2) (fun w hc => by rw [Sem.runT_eq]; simp [go_sem, execOp, Act.eval, hc]) ?_
  simp only [Act.put, Act.eval, List.getElem?_toArray, List.getElem?_cons_zero, List.getElem?_cons_succ, Option.bind_some, List.getElem_toArray, List.getElem_cons_zero, List.getElem_cons_succ, List.setIfInBounds_toArray, List.set_cons_succ, List.set_cons_zero]
  refine Win.enter (f := 18) (args := #[.pointer (some ⟨(ag i).p, 0, none⟩)]) (.inl hb) rfl rfl (fun d => ⟨#[], call_enter mild.toMild Try.func18 rfl rfl rfl rfl _ _ (by simp [Act.eval]), fun e he => by simp at he⟩) ?_
  refine ac_stop A2 hi (stok_at rfl rfl (by simp) (by kernel_rfl)) fun pl3 F3 col3 w3 A3 => ?_
  rw [Frame.finish_at]
  simp only [Act.put, Act.eval, List.getElem?_toArray, List.getElem?_cons_zero, List.getElem?_cons_succ, Option.bind_some, List.getElem_toArray, List.getElem_cons_zero, List.getElem_cons_succ, List.setIfInBounds_toArray, List.set_cons_succ, List.set_cons_zero]
  refine Win.opsEnd ?_
  have e3 : (fun j => if j = i then 0 else (fun j => if j = i then 0 else tr j) j) = fun j => if j = i then 0 else tr j := by
    funext j
    by_cases e : j = i <;> simp [e]
  rw [e3] at A3
  have hen : w3.cell? ⟨be, i, none⟩ = some (.int .i64 1) := by
    rw [(ends_cell A3.crew.sh hi).1, gof_get _ _ _ _ hi]; simp [hi]
  refine Win.region ?_
  simp only [List.size_toArray, List.length_cons, List.length_nil, Nat.reduceAdd, List.range, List.range.loop]
  refine Win.pureOp (v := .bool true) (.inl hb) rfl rfl (fun w => by rw [Sem.runT_eq]; simp [go_sem, execOp, Act.eval]; try (first | omega | rfl | exact ⟨rfl, rfl⟩ | kernel_rfl)) ?_
  simp only [Act.put, Act.eval, List.getElem?_toArray, List.getElem?_cons_zero, List.getElem?_cons_succ, Option.bind_some, List.getElem_toArray, List.getElem_cons_zero, List.getElem_cons_succ, List.setIfInBounds_toArray, List.set_cons_succ, List.set_cons_zero]
  refine Win.pureOp (v := .bool true) (.inl hb) rfl rfl (fun w => by rw [Sem.runT_eq]; simp [go_sem, execOp, Act.eval]; try (first | omega | rfl | exact ⟨rfl, rfl⟩ | kernel_rfl)) ?_
  simp only [Act.put, Act.eval, List.getElem?_toArray, List.getElem?_cons_zero, List.getElem?_cons_succ, Option.bind_some, List.getElem_toArray, List.getElem_cons_zero, List.getElem_cons_succ, List.setIfInBounds_toArray, List.set_cons_succ, List.set_cons_zero]
  refine Win.pureOp (v := .slice (some ⟨be, 0, none⟩) M M) (.inl hb) rfl rfl (fun w => by rw [Sem.runT_eq]; simp [go_sem, execOp, Act.eval]; try (first | omega | rfl | exact ⟨rfl, rfl⟩ | kernel_rfl)) ?_
  simp only [Act.put, Act.eval, List.getElem?_toArray, List.getElem?_cons_zero, List.getElem?_cons_succ, Option.bind_some, List.getElem_toArray, List.getElem_cons_zero, List.getElem_cons_succ, List.setIfInBounds_toArray, List.set_cons_succ, List.set_cons_zero]
  refine Win.pureOp (v := .int .i64 i) (.inl hb) rfl rfl (fun w => by rw [Sem.runT_eq]; simp [go_sem, execOp, Act.eval]; try (first | omega | rfl | exact ⟨rfl, rfl⟩ | kernel_rfl)) ?_
  simp only [Act.put, Act.eval, List.getElem?_toArray, List.getElem?_cons_zero, List.getElem?_cons_succ, Option.bind_some, List.getElem_toArray, List.getElem_cons_zero, List.getElem_cons_succ, List.setIfInBounds_toArray, List.set_cons_succ, List.set_cons_zero]
  refine Win.pureOp (v := .pointer (some ⟨be, i, none⟩)) (.inl hb) rfl rfl (fun w => op_index_int be i M M hi rfl rfl rfl) ?_
  simp only [Act.put, Act.eval, List.getElem?_toArray, List.getElem?_cons_zero, List.getElem?_cons_succ, Option.bind_some, List.getElem_toArray, List.getElem_cons_zero, List.getElem_cons_succ, List.setIfInBounds_toArray, List.set_cons_succ, List.set_cons_zero]
  refine Win.lookOp (v := .int .i64 1) (ad := ⟨be, i, none⟩) (x := .int .i64 1) (.inl hb) rfl rfl (hen) (fun w hc => by rw [Sem.runT_eq]; simp [go_sem, execOp, Act.eval, hc]) ?_
  simp only [Act.put, Act.eval, List.getElem?_toArray, List.getElem?_cons_zero, List.getElem?_cons_succ, Option.bind_some, List.getElem_toArray, List.getElem_cons_zero, List.getElem_cons_succ, List.setIfInBounds_toArray, List.set_cons_succ, List.set_cons_zero]
  refine Win.pureOp (v := .bool true) (.inl hb) rfl rfl (fun w => by rw [Sem.runT_eq]; simp [go_sem, execOp, Act.eval]; try (first | omega | rfl | exact ⟨rfl, rfl⟩ | kernel_rfl)) ?_
  simp only [Act.put, Act.eval, List.getElem?_toArray, List.getElem?_cons_zero, List.getElem?_cons_succ, Option.bind_some, List.getElem_toArray, List.getElem_cons_zero, List.getElem_cons_succ, List.setIfInBounds_toArray, List.set_cons_succ, List.set_cons_zero]
  refine Win.pureOp (v := .bool true) (.inl hb) rfl rfl (fun w => by rw [Sem.runT_eq]; simp [go_sem, execOp, Act.eval]; try (first | omega | rfl | exact ⟨rfl, rfl⟩ | kernel_rfl)) ?_
  simp only [Act.put, Act.eval, List.getElem?_toArray, List.getElem?_cons_zero, List.getElem?_cons_succ, Option.bind_some, List.getElem_toArray, List.getElem_cons_zero, List.getElem_cons_succ, List.setIfInBounds_toArray, List.set_cons_succ, List.set_cons_zero]
  refine Win.pureOp (v := .bool true) (.inl hb) rfl rfl (fun w => by rw [Sem.runT_eq]; simp [go_sem, execOp, Act.eval]; try (first | omega | rfl | exact ⟨rfl, rfl⟩ | kernel_rfl)) ?_
  simp only [Act.put, Act.eval, List.getElem?_toArray, List.getElem?_cons_zero, List.getElem?_cons_succ, Option.bind_some, List.getElem_toArray, List.getElem_cons_zero, List.getElem_cons_succ, List.setIfInBounds_toArray, List.set_cons_succ, List.set_cons_zero]
  refine Win.opsEnd ?_
  refine Win.inBlock ?_
  refine Win.region ?_
  simp only [List.size_toArray, List.length_cons, List.length_nil, Nat.reduceAdd, List.range, List.range.loop]
  refine Win.pureOp (v := .int .i64 i) (.inl hb) rfl rfl (fun w => by rw [Sem.runT_eq]; simp [go_sem, execOp, Act.eval]; try (first | omega | rfl | exact ⟨rfl, rfl⟩ | kernel_rfl)) ?_
  simp only [Act.put, Act.eval, List.getElem?_toArray, List.getElem?_cons_zero, List.getElem?_cons_succ, Option.bind_some, List.getElem_toArray, List.getElem_cons_zero, List.getElem_cons_succ, List.setIfInBounds_toArray, List.set_cons_succ, List.set_cons_zero]
  refine Win.pureOp (v := .int .i64 ((i + 1 : Nat) : Int)) (.inl hb) rfl rfl (fun w => by rw [Sem.runT_eq]; simp [go_sem, execOp, Act.eval, hw]; try (first | omega | rfl | exact ⟨rfl, rfl⟩ | kernel_rfl)) ?_
  simp only [Act.put, Act.eval, List.getElem?_toArray, List.getElem?_cons_zero, List.getElem?_cons_succ, Option.bind_some, List.getElem_toArray, List.getElem_cons_zero, List.getElem_cons_succ, List.setIfInBounds_toArray, List.set_cons_succ, List.set_cons_zero]
  refine Win.pureOp (v := .int .i64 ((i + 1 : Nat) : Int)) (.inl hb) rfl rfl (fun w => by rw [Sem.runT_eq]; simp [go_sem, execOp, Act.eval]; try (first | omega | rfl | exact ⟨rfl, rfl⟩ | kernel_rfl)) ?_
  simp only [Act.put, Act.eval, List.getElem?_toArray, List.getElem?_cons_zero, List.getElem?_cons_succ, Option.bind_some, List.getElem_toArray, List.getElem_cons_zero, List.getElem_cons_succ, List.setIfInBounds_toArray, List.set_cons_succ, List.set_cons_zero]
  refine Win.opsEnd ?_
  exact H (fun j => match j with | 5 => .pointer (some ⟨pA, 0, none⟩) | 7 => .slice (some ⟨be, 0, none⟩) M M | 8 => .slice (some ⟨ba, 0, none⟩) M ca | 9 => .bool true | 15 => .int .u64 sm | 20 => .int .i64 ((i + 1 : Nat) : Int) | 147 => .int .i64 i | 148 => .slice (some ⟨ba, 0, none⟩) M ca | 149 => .int .i64 (M : Int) | 150 => .bool true | 151 => .int .i64 i | 152 => .int .i64 ((i + 1 : Nat) : Int) | 153 => .slice (some ⟨ba, 0, none⟩) M ca | 154 => .int .i64 i | 155 => .pointer (some ⟨ba, i, none⟩) | 156 => .pointer (some ⟨(ag i).p, 0, none⟩) | 157 => .tuple #[] | 158 => .slice (some ⟨ba, 0, none⟩) M ca | 159 => .int .i64 i | 160 => .pointer (some ⟨ba, i, none⟩) | 161 => .pointer (some ⟨(ag i).p, 0, none⟩) | 162 => .tuple #[] | 163 => .bool true | 164 => .bool true | 165 => .slice (some ⟨be, 0, none⟩) M M | 166 => .int .i64 i | 167 => .pointer (some ⟨be, i, none⟩) | 168 => .int .i64 1 | 169 => .bool true | 170 => .bool true | j => x j) pl3 F3 col3 w3 A3 hx5.symm hx7.symm hx8.symm rfl hx15.symm rfl

/-- THE THIRD LOOP: all are stopped. -/
theorem ac_loop3 {args : Array Value} (hM : M ≤ 8) (H : ∀ (x : Nat → Value) tr pl F col w, AcW Post W pA rA be M M ag tr va pl F col w (gof M tr M) s → (∀ j, j < M → tr j = 0) → x 5 = .pointer (some ⟨pA, 0, none⟩) → x 7 = .slice (some ⟨be, 0, none⟩) M M → x 8 = va → x 9 = .bool true → x 15 = .int .u64 (sm : Nat) → Win Try.prog Post pl n 0 (gor ((Frame.enter Try.prog 5 args .normal).at ⟨T181 x, []⟩ [.code (acA3 Try.f5)]) []) w) :
    ∀ d i, i + d = M → ∀ (x : Nat → Value) tr pl F col w, AcW Post W pA rA be M M ag tr va pl F col w (gof M tr M) s → (∀ j, j < i → tr j = 0) → x 5 = .pointer (some ⟨pA, 0, none⟩) → x 7 = .slice (some ⟨be, 0, none⟩) M M → x 8 = va → x 9 = .bool true → x 15 = .int .u64 (sm : Nat) → x 20 = .int .i64 i →
      Win Try.prog Post pl n 0 (gor ((Frame.enter Try.prog 5 args .normal).at ⟨T181 x, []⟩ (.code (acX3 Try.f5) :: acK3 Try.f5)) []) w := by
  intro d
  induction d with
  | zero =>
    intro i hi x tr pl F col w A h0 hx5 hx7 hx8 hx9 hx15 hx20
    obtain rfl : i = M := by omega
    have hb : (Frame.enter Try.prog 5 args .normal).kind = .normal := rfl
    have hX : acK3 Try.f5 = [.inLoop (acX3 Try.f5), .inBlock 4, .code (acA3 Try.f5)] := rfl
    rw [hX]
    obtain ⟨KK, hKK⟩ : ∃ KK, KK = Item.inLoop (acX3 Try.f5) := ⟨_, rfl⟩
    obtain ⟨K2, hK2⟩ : ∃ K2, K2 = acA3 Try.f5 := ⟨_, rfl⟩
    have hfin := H
    rw [← hK2] at hfin
    have hKe : exitTo 4 [KK, .inBlock 4, .code K2] = some [.code K2] := by rw [hKK]; rfl
    rw [← hKK, ← hK2]
    obtain ⟨va1, va2, hva⟩ := A.all.form
    subst hva
    clear hKK hK2 H
    simp only [acX3, bodyOf, Try.f5, codeL, codeR, blockOf, loopOf, Option.getD_some, T181]
    simp only [hx5, hx7, hx8, hx9, hx15, hx20]
    refine Win.seq ?_
    refine Win.seq ?_
    refine Win.region ?_
    simp only [List.size_toArray, List.length_cons, List.length_nil, Nat.reduceAdd, List.range, List.range.loop]
    refine Win.pureOp (v := .int .i64 i) (.inl hb) rfl rfl (fun w => by rw [Sem.runT_eq]; simp [go_sem, execOp, Act.eval]; try (first | omega | rfl | exact ⟨rfl, rfl⟩ | kernel_rfl)) ?_
    simp only [Act.put, Act.eval, List.getElem?_toArray, List.getElem?_cons_zero, List.getElem?_cons_succ, Option.bind_some, List.getElem_toArray, List.getElem_cons_zero, List.getElem_cons_succ, List.setIfInBounds_toArray, List.set_cons_succ, List.set_cons_zero]
    refine Win.pureOp (v := .slice va1 i va2) (.inl hb) rfl rfl (fun w => by rw [Sem.runT_eq]; simp [go_sem, execOp, Act.eval]; try (first | omega | rfl | exact ⟨rfl, rfl⟩ | kernel_rfl)) ?_
    simp only [Act.put, Act.eval, List.getElem?_toArray, List.getElem?_cons_zero, List.getElem?_cons_succ, Option.bind_some, List.getElem_toArray, List.getElem_cons_zero, List.getElem_cons_succ, List.setIfInBounds_toArray, List.set_cons_succ, List.set_cons_zero]
    refine Win.pureOp (v := .int .i64 (i : Int)) (.inl hb) rfl rfl (fun w => by rw [Sem.runT_eq]; simp [go_sem, execOp, Act.eval]; try (first | omega | rfl | exact ⟨rfl, rfl⟩ | kernel_rfl)) ?_
    simp only [Act.put, Act.eval, List.getElem?_toArray, List.getElem?_cons_zero, List.getElem?_cons_succ, Option.bind_some, List.getElem_toArray, List.getElem_cons_zero, List.getElem_cons_succ, List.setIfInBounds_toArray, List.set_cons_succ, List.set_cons_zero]
    refine Win.pureOp (v := .bool false) (.inl hb) rfl rfl (fun w => by rw [Sem.runT_eq]; simp [go_sem, execOp, Act.eval]; try (first | omega | rfl | exact ⟨rfl, rfl⟩ | kernel_rfl)) ?_
    simp only [Act.put, Act.eval, List.getElem?_toArray, List.getElem?_cons_zero, List.getElem?_cons_succ, Option.bind_some, List.getElem_toArray, List.getElem_cons_zero, List.getElem_cons_succ, List.setIfInBounds_toArray, List.set_cons_succ, List.set_cons_zero]
    refine Win.opsEnd ?_
    refine Win.cond (t := false) rfl ?_
    simp only [if_true, if_false, Bool.false_eq_true]
    refine Win.exit hKe ?_
    exact hfin (fun j => match j with | 5 => .pointer (some ⟨pA, 0, none⟩) | 7 => .slice (some ⟨be, 0, none⟩) i i | 8 => .slice va1 i va2 | 9 => .bool true | 15 => .int .u64 sm | 20 => .int .i64 i | 147 => .int .i64 i | 148 => .slice va1 i va2 | 149 => .int .i64 (i : Int) | 150 => .bool false | j => x j) tr pl F col w A h0 rfl rfl rfl rfl rfl
  | succ d ih =>
    intro i hi x tr pl F col w A h0 hx5 hx7 hx8 hx9 hx15 hx20
    refine ac_body3 A (by omega) hM hx5 hx7 hx8 hx9 hx15 hx20 fun x' pl' F' col' w' A' y5 y7 y8 y9 y15 y20 => ?_
    refine Win.inLoop ?_
    refine ih (i + 1) (by omega) x' _ pl' F' col' w' A' (fun j hj => ?_) (y5.trans hx5) (y7.trans hx7) (y8.trans hx8) y9 (y15.trans hx15) y20
    show (if j = i then 0 else tr j) = 0
    split
    · rfl
    · exact h0 j (by omega)

set_option maxHeartbeats 4000000 in
/-- THE END. -/
theorem ac_end {args : Array Value} {x : Nat → Value} (A : AcW Post W pA rA be M M ag tr va pl F col w (gof M tr M) ⟨[((sm : Nat) : Int)], t, l⟩) (h0 : ∀ j, j < M → tr j = 0) (ht : t ≤ 4000) (hx5 : x 5 = .pointer (some ⟨pA, 0, none⟩)) (hx7 : x 7 = .slice (some ⟨be, 0, none⟩) M M) (hx8 : x 8 = va) (hx9 : x 9 = .bool true) (hx15 : x 15 = .int .u64 (sm : Nat)) (hn : 0 < n) (hPost : ∀ w', Ks (fun _ => False) W w' → Post (.bool true) w') :
    Win Try.prog Post pl n 0 (gor ((Frame.enter Try.prog 5 args .normal).at ⟨T181 x, []⟩ [.code (acA3 Try.f5)]) []) w := by
  have hb : (Frame.enter Try.prog 5 args .normal).kind = .normal := rfl
  have hpl : ∀ i, pl i = none := fun i => by
    rcases Nat.lt_or_ge i 1 with z | z
    · obtain rfl : i = 0 := by omega
      exact A.crew.desk.pl0
    · rcases Nat.lt_or_ge i (1 + M) with z2 | z2
      · have hst := A.crew.st (i - 1) (by omega)
        rw [h0 (i - 1) (by omega)] at hst
        have hj := A.crew.num (i - 1) (by omega)
        have := hst.1
        rw [hj, show 1 + (i - 1) = i from by omega] at this
        exact this
      · exact A.crew.out i z2
  have D := A.crew.desk
  have hA := A.ar
  have hga := A.ar_ge
  have hrd := fun (w' : World) (ha : Ar w' pA rA ⟨[((sm : Nat) : Int)], t, l⟩) => read_any w' pA rA _ 0 ha (by show (1 : Nat) ≤ 4096; decide) (by show t ≤ 1000000; omega)
  simp only [acA3, bodyOf, Try.f5, codeR, Option.getD_some, T181]
  simp only [hx5, hx7, hx8, hx9, hx15]
  refine Win.seq ?_
  refine Win.region ?_
  simp only [List.size_toArray, List.length_cons, List.length_nil, Nat.reduceAdd, List.range, List.range.loop]
  refine Win.pureOp (v := .bool true) (.inl hb) rfl rfl (fun w => by rw [Sem.runT_eq]; simp [go_sem, execOp, Act.eval]; try (first | omega | rfl | exact ⟨rfl, rfl⟩ | kernel_rfl)) ?_
  simp only [Act.put, Act.eval, List.getElem?_toArray, List.getElem?_cons_zero, List.getElem?_cons_succ, Option.bind_some, List.getElem_toArray, List.getElem_cons_zero, List.getElem_cons_succ, List.setIfInBounds_toArray, List.set_cons_succ, List.set_cons_zero]
  refine Win.pureOp (v := .bool true) (.inl hb) rfl rfl (fun w => by rw [Sem.runT_eq]; simp [go_sem, execOp, Act.eval]; try (first | omega | rfl | exact ⟨rfl, rfl⟩ | kernel_rfl)) ?_
  simp only [Act.put, Act.eval, List.getElem?_toArray, List.getElem?_cons_zero, List.getElem?_cons_succ, Option.bind_some, List.getElem_toArray, List.getElem_cons_zero, List.getElem_cons_succ, List.setIfInBounds_toArray, List.set_cons_succ, List.set_cons_zero]
  refine Win.pureOp (v := .pointer (some ⟨pA, 0, none⟩)) (.inl hb) rfl rfl (fun w => by rw [Sem.runT_eq]; simp [go_sem, execOp, Act.eval]; try (first | omega | rfl | exact ⟨rfl, rfl⟩ | kernel_rfl)) ?_
  simp only [Act.put, Act.eval, List.getElem?_toArray, List.getElem?_cons_zero, List.getElem?_cons_succ, Option.bind_some, List.getElem_toArray, List.getElem_cons_zero, List.getElem_cons_succ, List.setIfInBounds_toArray, List.set_cons_succ, List.set_cons_zero]
  refine Win.enter (f := 23) (args := #[.pointer (some ⟨pA, 0, none⟩), .int .i64 0]) (.inl hb) rfl rfl (fun d => ⟨#[], call_enter mild.toMild Try.func23 rfl rfl rfl rfl _ _ (by simp [Act.eval]), fun e he => by simp at he⟩) ?_
  refine Win.calls mild D.lies (stok_at rfl rfl (by simp) (by kernel_rfl)) (R := fun e w' => e = .returned (.int .u64 sm) ∧ Ks (fun b => b = pA ∨ b = rA) (D.lies.veil.world (fun _ _ => 0) 0 w) w') (fun τ => ?_) (fun e w' h => ⟨_, h.1⟩) ?_
  · have ha : Ar (D.lies.veil.world τ 0 w) pA rA ⟨[((sm : Nat) : Int)], t, l⟩ := ⟨(D.lies.block (D.lay.free pA (by rw [D.lay.ar.1]; rfl))).2 hA.hp, (D.lies.block (D.lay.free rA (by rw [D.lay.ar.2]; rfl))).2 hA.hr⟩
    refine (hrd _ ha).mono ?_
    rintro e w' ⟨h1, h2, h3⟩
    exact ⟨h1, ks_twin0 ((ks_of_kp h3).mono fun b _ z => by simpa using z)⟩
  intro v' w2 τ Dd hok' hVOK hVK hR
  obtain ⟨hv, hku⟩ := hR
  obtain rfl : v' = .int .u64 sm := by simpa using hv
  have ks2 := ks_of_twin D.lies hVOK hVK hku
  have kW : Ks (fun _ => False) W w2 := A.ks.then ks2 fun b hb z => by rcases z with z | z <;> omega
  clear hv hku hok' hVOK hVK
  rw [Frame.finish_at]
  simp only [Act.put, Act.eval, List.getElem?_toArray, List.getElem?_cons_zero, List.getElem?_cons_succ, Option.bind_some, List.getElem_toArray, List.getElem_cons_zero, List.getElem_cons_succ, List.setIfInBounds_toArray, List.set_cons_succ, List.set_cons_zero]
  refine Win.pureOp (v := .int .u64 sm) (.inl hb) rfl rfl (fun w => by rw [Sem.runT_eq]; simp [go_sem, execOp, Act.eval]; try (first | omega | rfl | exact ⟨rfl, rfl⟩ | kernel_rfl)) ?_
  simp only [Act.put, Act.eval, List.getElem?_toArray, List.getElem?_cons_zero, List.getElem?_cons_succ, Option.bind_some, List.getElem_toArray, List.getElem_cons_zero, List.getElem_cons_succ, List.setIfInBounds_toArray, List.set_cons_succ, List.set_cons_zero]
  refine Win.pureOp (v := .bool true) (.inl hb) rfl rfl (fun w => by rw [Sem.runT_eq]; simp [go_sem, execOp, Act.eval]; try (first | omega | rfl | exact ⟨rfl, rfl⟩ | kernel_rfl)) ?_
  simp only [Act.put, Act.eval, List.getElem?_toArray, List.getElem?_cons_zero, List.getElem?_cons_succ, Option.bind_some, List.getElem_toArray, List.getElem_cons_zero, List.getElem_cons_succ, List.setIfInBounds_toArray, List.set_cons_succ, List.set_cons_zero]
  refine Win.pureOp (v := .bool true) (.inl hb) rfl rfl (fun w => by rw [Sem.runT_eq]; simp [go_sem, execOp, Act.eval]; try (first | omega | rfl | exact ⟨rfl, rfl⟩ | kernel_rfl)) ?_
  simp only [Act.put, Act.eval, List.getElem?_toArray, List.getElem?_cons_zero, List.getElem?_cons_succ, Option.bind_some, List.getElem_toArray, List.getElem_cons_zero, List.getElem_cons_succ, List.setIfInBounds_toArray, List.set_cons_succ, List.set_cons_zero]
  refine Win.pureOp (v := .bool true) (.inl hb) rfl rfl (fun w => by rw [Sem.runT_eq]; simp [go_sem, execOp, Act.eval]; try (first | omega | rfl | exact ⟨rfl, rfl⟩ | kernel_rfl)) ?_
  simp only [Act.put, Act.eval, List.getElem?_toArray, List.getElem?_cons_zero, List.getElem?_cons_succ, Option.bind_some, List.getElem_toArray, List.getElem_cons_zero, List.getElem_cons_succ, List.setIfInBounds_toArray, List.set_cons_succ, List.set_cons_zero]
  refine Win.enter (f := 9) (args := #[]) (.inl hb) rfl rfl (fun d => ⟨#[], call_enter mild.toMild Try.func9 rfl rfl rfl rfl _ _ (by simp [Act.eval]), fun e he => by simp at he⟩) ?_
  refine wakes_goes hpl hn fun pl' n' w9 hpl' hn' k9 => ?_
  rw [Frame.finish_at]
  simp only [Act.put, Act.eval, List.getElem?_toArray, List.getElem?_cons_zero, List.getElem?_cons_succ, Option.bind_some, List.getElem_toArray, List.getElem_cons_zero, List.getElem_cons_succ, List.setIfInBounds_toArray, List.set_cons_succ, List.set_cons_zero]
  refine Win.pureOp (v := .bool true) (.inl hb) rfl rfl (fun w => by rw [Sem.runT_eq]; simp [go_sem, execOp, Act.eval]; try (first | omega | rfl | exact ⟨rfl, rfl⟩ | kernel_rfl)) ?_
  simp only [Act.put, Act.eval, List.getElem?_toArray, List.getElem?_cons_zero, List.getElem?_cons_succ, Option.bind_some, List.getElem_toArray, List.getElem_cons_zero, List.getElem_cons_succ, List.setIfInBounds_toArray, List.set_cons_succ, List.set_cons_zero]
  refine Win.pureOp (v := .bool true) (.inl hb) rfl rfl (fun w => by rw [Sem.runT_eq]; simp [go_sem, execOp, Act.eval]; try (first | omega | rfl | exact ⟨rfl, rfl⟩ | kernel_rfl)) ?_
  simp only [Act.put, Act.eval, List.getElem?_toArray, List.getElem?_cons_zero, List.getElem?_cons_succ, Option.bind_some, List.getElem_toArray, List.getElem_cons_zero, List.getElem_cons_succ, List.setIfInBounds_toArray, List.set_cons_succ, List.set_cons_zero]
  refine Win.opsEnd ?_
  refine Win.ret ?_
  refine Win.done hpl' rfl fun d => ?_
  refine ⟨.bool true, #[], ?_, fun e he => by simp at he, hPost _ ((kW.trans k9).at d)⟩
  exact stepG_done rfl rfl rfl Try.func5 (by kernel_rfl) (fun w => by rw [Sem.runT_eq]; simp [go_sem, results, Try.f5, Frame.at]) _

end
end Go.Proofs.Ytodcnhodbeakiaa

namespace Go.Proofs.Ytodcnhodbeakiaa
set_option linter.unusedVariables false
set_option linter.unusedSimpArgs false
set_option maxRecDepth 100000
open Go.Conc
open Go.ConcN (upd_ne upd_same)

section
variable {Post : Value → World → Prop} {W : World} {pA rA be M n : Nat} {va : Value} {pl : Nat → Option Place} {w : World} {sm : Nat}

set_option maxHeartbeats 4000000 in
theorem ac_mid2 {args : Array Value} {x : Nat → Value} (hx5 : x 5 = .pointer (some ⟨pA, 0, none⟩)) (hx7 : x 7 = .slice (some ⟨be, 0, none⟩) M M) (hx8 : x 8 = va) (hx9 : x 9 = .bool true) (hx15 : x 15 = .int .u64 (sm : Nat))
    (H : ∀ (x' : Nat → Value), x' 5 = .pointer (some ⟨pA, 0, none⟩) → x' 7 = .slice (some ⟨be, 0, none⟩) M M → x' 8 = va → x' 9 = .bool true → x' 15 = .int .u64 (sm : Nat) → x' 20 = .int .i64 0 →
      Win Try.prog Post pl n 0 (gor ((Frame.enter Try.prog 5 args .normal).at ⟨T181 x', []⟩ (.code (acX3 Try.f5) :: acK3 Try.f5)) []) w) :
    Win Try.prog Post pl n 0 (gor ((Frame.enter Try.prog 5 args .normal).at ⟨T181 x, []⟩ [.code (acA2 Try.f5)]) []) w := by
  have hb : (Frame.enter Try.prog 5 args .normal).kind = .normal := rfl
  simp only [acA2, bodyOf, Try.f5, codeR, Option.getD_some, T181]
  simp only [hx5, hx7, hx8, hx9, hx15]
  refine Win.seq ?_
  refine Win.seq ?_
  refine Win.region ?_
  simp only [List.size_toArray, List.length_cons, List.length_nil, Nat.reduceAdd, List.range, List.range.loop]
  refine Win.pureOp (v := .int .i64 0) (.inl hb) rfl rfl (fun w => rfl) ?_
  simp only [Act.put, Act.eval, List.getElem?_toArray, List.getElem?_cons_zero, List.getElem?_cons_succ, Option.bind_some, List.getElem_toArray, List.getElem_cons_zero, List.getElem_cons_succ, List.setIfInBounds_toArray, List.set_cons_succ, List.set_cons_zero]
  refine Win.opsEnd ?_
  refine Win.block ?_
  refine Win.loop ?_
  exact H (fun j => match j with | 5 => .pointer (some ⟨pA, 0, none⟩) | 7 => .slice (some ⟨be, 0, none⟩) M M | 8 => va | 9 => .bool true | 15 => .int .u64 sm | 20 => .int .i64 0 | j => x j) rfl rfl rfl rfl rfl rfl
end

/-- THE WALK OF THE LAW. -/
theorem counts_walk {Post : Value → World → Prop} {W : World} {L O : List Int} {ao bo : Option Addr} {ct co : Nat} (hL : Us W ao L) (hO : Us W bo O) (hnil : ao = none → L = [] ∧ ct = 0)
    (hPost : ∀ w', Ks (fun _ => False) W w' → Post (.bool true) w') :
    Win Try.prog Post (fun _ => none) 1 0 (gor (Frame.enter Try.prog 5 #[.slice ao L.length ct, .slice bo O.length co] .normal) []) W := by
  by_cases hM : 8 < L.length
  · exact counts_skipM (fun _ => rfl) (by decide) hM hPost
  by_cases hK : 200 < O.length
  · exact counts_skipK (fun _ => rfl) (by decide) hM hK hPost
  refine counts_in (fun _ => rfl) (by decide) hM hK fun pA rA be x w' x0 x1 x5 x7 x8 x9 x10 ar en ks gA gR gB n1 n2 n3 hlt => ?_
  obtain ⟨col, hcol⟩ : ∃ col : Nat → Col, col = fun b => if b = be then .shared else if b = pA then .arena else if b = rA then .arena else .main := ⟨_, rfl⟩
  have cB : col be = .shared := by rw [hcol]; simp
  have cA : col pA = .arena := by rw [hcol]; simp [n2.symm]
  have cR : col rA = .arena := by rw [hcol]; simp [n3.symm, n1.symm]
  have cM : ∀ b, b ≠ be → b ≠ pA → b ≠ rA → col b = .main := fun b h1 h2 h3 => by rw [hcol]; simp [h1, h2, h3]
  have lA := lt_of_block ar.hp
  have lR := lt_of_block ar.hr
  have efr : fresh 1 = (⟨[((0 : Nat) : Int)], 0, 0⟩ : St) := rfl
  rw [efr] at ar
  have D : Desk (· = be) pA rA (fun _ => none) (fun _ => none) col w' :=
    ⟨rfl, lies_none (fun _ => rfl) w', ⟨fun _ _ => rfl, fun b hb => cM b (by omega) (by omega) (by omega), fun b hb => by rw [show b = be from hb, cB], ⟨cA, cR⟩⟩, fun i s c hi => by cases hi⟩
  have A0 : AcW Post W pA rA be L.length 0 (fun _ => ⟨0, 0, 0, 0, 0, 0⟩) (fun j => (L.getD j 0).toNat) (.slice none 0 0) (fun _ => none) (fun _ => none) col w' (gof L.length (fun j => (L.getD j 0).toNat) 0) ⟨[((0 : Nat) : Int)], 0, 0⟩ :=
    ⟨⟨by decide, D, fun _ _ => rfl, fun i hi => by omega, fun i hi => by omega, fun i hi => by omega, by rw [gof_zero]; exact en⟩, ar, Rw.nil _ _ _ _, fun b hb => by (rw [blk_nil] at hb; cases hb), fun b hb => cM b (by omega) (by omega) (by omega), ks⟩
  have hB255 : ∀ j, (fun j => (L.getD j 0).toNat) j ≤ 255 := by
    intro j
    show (L.getD j 0).toNat ≤ 255
    cases e : L[j]? with
    | none => simp [List.getD, e]
    | some y => obtain ⟨_, _, _, _, h1, h2⟩ := hL j y e; simp [List.getD, e]; omega
  refine ac_loop1 (vo := .slice bo O.length co) hL (by omega) rfl ?_ L.length 0 (by omega) x _ _ _ _ _ w' A0 x0 x1 x5 x7 x8 x9 x10
  intro x ag va pl F col w A x0 x1 x5 x7 x8 x9
  refine ac_mid hL hnil (by omega) rfl rfl A x0 x1 x5 x7 x8 x9 ?_
  intro x vl w A x0 x1 x5 x7 x8 x9 x15 x16 x17
  refine ac_loop2 hO rfl (by omega) (by omega) ?_ O.length 0 (by omega) x _ pl F col w 0 0 0 A (by omega) (by omega) hB255 x0 x1 x5 x7 x8 x9 x15 x16 x17
  intro x tr pl F col w sm t l A hs ht htr x0 x1 x5 x7 x8 x9 x15 x16
  refine ac_mid2 x5 x7 x8 x9 x15 ?_
  intro x x5 x7 x8 x9 x15 x20
  refine ac_loop3 (by omega) ?_ L.length 0 (by omega) x tr pl F col w A.aw (fun j hj => by omega) x5 x7 x8 x9 x15 x20
  intro x tr pl F col w A h0 x5 x7 x8 x9 x15
  exact ac_end A h0 (by omega) x5 x7 x8 x9 x15 (by omega) hPost
end Go.Proofs.Ytodcnhodbeakiaa
