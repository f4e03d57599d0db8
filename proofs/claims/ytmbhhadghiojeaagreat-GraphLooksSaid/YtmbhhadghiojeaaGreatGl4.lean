/- Object, Own, Globals of a graph that lies somewhere. Conditions: as each theorem states them. -/
import Derived.Test.YtmbhhadghiojeaaGreatGl3
namespace Go.Proofs.YtmbhhadghiojeaaGreat
set_option linter.unusedVariables false
set_option linter.unusedSimpArgs false
open Go.RowKit Go.Maps

theorem mx_Object (w : World) (gv : Option Addr) (k x : Int) (Q : World → Prop)
    (hc : Calls Tryz.prog 19 #[.func (.func 90) #[] #[.pointer (some ⟨w.heap.size, 0, none⟩), .pointer (some ⟨w.heap.size + 1, 0, none⟩), .pointer (some ⟨w.heap.size + 1 + 1, 0, none⟩), .pointer (some ⟨w.heap.size + 1 + 1 + 1, 0, none⟩)]]
      ((((w.alloc (.cells #[.pointer gv] 24)).alloc (.cells #[.int .i64 k] 3)).alloc (.cells #[.slice none 0 0] 37)).alloc (.cells #[.slice none 0 0] 73))
      (Caught ((((w.alloc (.cells #[.pointer gv] 24)).alloc (.cells #[.int .i64 k] 3)).alloc (.cells #[.slice none 0 0] 37)).alloc (.cells #[.slice none 0 0] 73)) x Q))
    (hQ : ∀ w2, Q w2 → ∃ (a1 a2 : Option Addr) (n1 c1 n2 c2 : Nat), w2.heap[w.heap.size + 1 + 1]? = some (.cells #[.slice a1 n1 c1] 37 (0, 0)) ∧ w2.heap[w.heap.size + 1 + 1 + 1]? = some (.cells #[.slice a2 n2 c2] 73 (0, 0))) :
    Calls Tryz.prog 52 #[.pointer gv, .int .i64 k] w fun e w' => ∃ (a1 a2 : Option Addr) (n1 c1 n2 c2 : Nat), e = .returned (.tuple #[.slice a1 n1 c1, .slice a2 n2 c2, .int .i64 x]) ∧ ∃ w2, Q w2 ∧ w2.heap[w.heap.size + 1 + 1]? = some (.cells #[.slice a1 n1 c1] 37 (0, 0)) ∧ w2.heap[w.heap.size + 1 + 1 + 1]? = some (.cells #[.slice a2 n2 c2] 73 (0, 0)) ∧ Kp [w.heap.size + 1 + 1, w.heap.size + 1 + 1 + 1, w.heap.size + 1 + 1 + 1 + 1] w2 w' := by
  have hmf := mkf
  have HQ := Lib.hid hQ
  have HC := Lib.hid hc
  clear hQ hc
  go_enter Tryz.func52, Tryz.ntmps52
  go_wp2_with fail
  refine HC.out.mono ?_
  rintro e w3 ⟨rfl, w2, hq, hk⟩
  obtain ⟨a1, a2, n1, c1, n2, c2, hq1, hq2⟩ := HQ.out w2 hq
  have HQQ := Lib.hid (And.intro hq1 hq2)
  obtain ⟨b1, hb1⟩ : ∃ b1, b1 = w.heap.size + 1 + 1 := ⟨_, rfl⟩
  obtain ⟨b2, hb2⟩ : ∃ b2, b2 = w.heap.size + 1 + 1 + 1 := ⟨_, rfl⟩
  have hS := s2_start (b1 := b1) (b2 := b2) (by omega) (hk.row (by simp [hb1]) (by rw [hb1]; exact hq1)) (hk.row (by simp [hb2]) (by rw [hb2]; exact hq2))
  have hkk : Kp [b2 + 1] w2 w3 := by rw [hb2]; simpa using hk
  have HS := Lib.hid hS
  have HKK := Lib.hid hkk
  have HB := Lib.hid (And.intro hb1 hb2)
  clear hmf HC hk hkk hS HQ hq1 hq2
  rw [← hb2, ← hb1]
  clear hb1 hb2
  go_wp2_with fail
  go_region_held3 (fun w' => w'.cell? ⟨b1, 0, none⟩ = some (.slice a1 n1 c1) ∧ w'.cell? ⟨b2, 0, none⟩ = some (.slice a2 n2 c2) ∧ w'.frozen? ⟨b1, 0, none⟩ = false ∧ w'.frozen? ⟨b2, 0, none⟩ = false ∧ b1 ≠ b2 ∧
      w'.heap[b1]? = some (.cells #[.slice a1 n1 c1] 37 (0, 0)) ∧ w'.heap[b2]? = some (.cells #[.slice a2 n2 c2] 73 (0, 0)) ∧ Kp [b1, b2] w3 w')
    (first
      | exact s2_drew HS.out
      | exact s2_drew ‹_ ∧ _›
      | exact s2_set1 ‹_ ∧ _›
      | exact s2_set2 ‹_ ∧ _›)
    (fail)
  all_goals
    obtain ⟨k1, k2, k3, k4, k5, k6, k7, k8⟩ := ‹_ ∧ _›
    have HE := Lib.hid (show Kp [b1, b2, b2 + 1] w2 _ from (HKK.out.mono (by simp)).trans (k8.mono (by simp)))
    clear k3 k4 k5 k6 k7 k8
    go_wp2_with fail
    exact bodyPost_ret (v := .tuple #[.slice a1 n1 c1, .slice a2 n2 c2, .int .i64 x]) (by simp [results, Tryz.results52, go_sem, k1, k2]) rfl ⟨a1, a2, n1, c1, n2, c2, rfl, w2, hq, HQQ.out.1, HQQ.out.2, by rw [← HB.out.2, ← HB.out.1]; exact HE.out⟩

theorem mx_Own (w : World) (gv : Option Addr) (k x : Int) (Q : World → Prop)
    (hc : Calls Tryz.prog 19 #[.func (.func 91) #[] #[.pointer (some ⟨w.heap.size, 0, none⟩), .pointer (some ⟨w.heap.size + 1, 0, none⟩), .pointer (some ⟨w.heap.size + 1 + 1, 0, none⟩), .pointer (some ⟨w.heap.size + 1 + 1 + 1, 0, none⟩)]]
      ((((w.alloc (.cells #[.pointer gv] 24)).alloc (.cells #[.int .i64 k] 3)).alloc (.cells #[.slice none 0 0] 37)).alloc (.cells #[.slice none 0 0] 37))
      (Caught ((((w.alloc (.cells #[.pointer gv] 24)).alloc (.cells #[.int .i64 k] 3)).alloc (.cells #[.slice none 0 0] 37)).alloc (.cells #[.slice none 0 0] 37)) x Q))
    (hQ : ∀ w2, Q w2 → ∃ (a1 a2 : Option Addr) (n1 c1 n2 c2 : Nat), w2.heap[w.heap.size + 1 + 1]? = some (.cells #[.slice a1 n1 c1] 37 (0, 0)) ∧ w2.heap[w.heap.size + 1 + 1 + 1]? = some (.cells #[.slice a2 n2 c2] 37 (0, 0))) :
    Calls Tryz.prog 54 #[.pointer gv, .int .i64 k] w fun e w' => ∃ (a1 a2 : Option Addr) (n1 c1 n2 c2 : Nat), e = .returned (.tuple #[.slice a1 n1 c1, .slice a2 n2 c2, .int .i64 x]) ∧ ∃ w2, Q w2 ∧ w2.heap[w.heap.size + 1 + 1]? = some (.cells #[.slice a1 n1 c1] 37 (0, 0)) ∧ w2.heap[w.heap.size + 1 + 1 + 1]? = some (.cells #[.slice a2 n2 c2] 37 (0, 0)) ∧ Kp [w.heap.size + 1 + 1, w.heap.size + 1 + 1 + 1, w.heap.size + 1 + 1 + 1 + 1] w2 w' := by
  have hmf := mkf
  have HQ := Lib.hid hQ
  have HC := Lib.hid hc
  clear hQ hc
  go_enter Tryz.func54, Tryz.ntmps54
  go_wp2_with fail
  refine HC.out.mono ?_
  rintro e w3 ⟨rfl, w2, hq, hk⟩
  obtain ⟨a1, a2, n1, c1, n2, c2, hq1, hq2⟩ := HQ.out w2 hq
  have HQQ := Lib.hid (And.intro hq1 hq2)
  obtain ⟨b1, hb1⟩ : ∃ b1, b1 = w.heap.size + 1 + 1 := ⟨_, rfl⟩
  obtain ⟨b2, hb2⟩ : ∃ b2, b2 = w.heap.size + 1 + 1 + 1 := ⟨_, rfl⟩
  have hS := s2_start (b1 := b1) (b2 := b2) (by omega) (hk.row (by simp [hb1]) (by rw [hb1]; exact hq1)) (hk.row (by simp [hb2]) (by rw [hb2]; exact hq2))
  have hkk : Kp [b2 + 1] w2 w3 := by rw [hb2]; simpa using hk
  have HS := Lib.hid hS
  have HKK := Lib.hid hkk
  have HB := Lib.hid (And.intro hb1 hb2)
  clear hmf HC hk hkk hS HQ hq1 hq2
  rw [← hb2, ← hb1]
  clear hb1 hb2
  go_wp2_with fail
  go_region_held3 (fun w' => w'.cell? ⟨b1, 0, none⟩ = some (.slice a1 n1 c1) ∧ w'.cell? ⟨b2, 0, none⟩ = some (.slice a2 n2 c2) ∧ w'.frozen? ⟨b1, 0, none⟩ = false ∧ w'.frozen? ⟨b2, 0, none⟩ = false ∧ b1 ≠ b2 ∧
      w'.heap[b1]? = some (.cells #[.slice a1 n1 c1] 37 (0, 0)) ∧ w'.heap[b2]? = some (.cells #[.slice a2 n2 c2] 37 (0, 0)) ∧ Kp [b1, b2] w3 w')
    (first
      | exact s2_drew HS.out
      | exact s2_drew ‹_ ∧ _›
      | exact s2_set1 ‹_ ∧ _›
      | exact s2_set2 ‹_ ∧ _›)
    (fail)
  all_goals
    obtain ⟨k1, k2, k3, k4, k5, k6, k7, k8⟩ := ‹_ ∧ _›
    have HE := Lib.hid (show Kp [b1, b2, b2 + 1] w2 _ from (HKK.out.mono (by simp)).trans (k8.mono (by simp)))
    clear k3 k4 k5 k6 k7 k8
    go_wp2_with fail
    exact bodyPost_ret (v := .tuple #[.slice a1 n1 c1, .slice a2 n2 c2, .int .i64 x]) (by simp [results, Tryz.results54, go_sem, k1, k2]) rfl ⟨a1, a2, n1, c1, n2, c2, rfl, w2, hq, HQQ.out.1, HQQ.out.2, by rw [← HB.out.2, ← HB.out.1]; exact HE.out⟩


theorem slice_inj {a b : Option Addr} {n c m d : Nat} {T : TypeId} {w : World} {k : Nat} (h : w.heap[k]? = some (.cells #[.slice a n c] T (0, 0))) (h' : w.heap[k]? = some (.cells #[.slice b m d] T (0, 0))) : a = b ∧ n = m ∧ c = d := by
  rw [h] at h'
  simpa using h'

section
variable {F : Nat → Prop} {w : World} {p : Nat} {s : Gs} {M : Nat} {y : Ly}
theorem g_Object_ok (hy : Gy w p s y) (hw : Wf s M) (hM : M ≤ 10000) {n : Nat} (h1 : 1 ≤ n) (hn : n ≤ s.m) :
    Calls Tryz.prog 52 #[.pointer (some ⟨p, 0, none⟩), .int .i64 n] w (ObIs w (s.R n) (s.D n)) := by
  have B := bx_Object w (some ⟨p, 0, none⟩) n
  have hm := hw.m
  have h95 := hw.r95 n h1 hn
  have hc := object1_ok _ (w.heap.size) (w.heap.size + 1) (w.heap.size + 1 + 1) (w.heap.size + 1 + 1 + 1) p y.B n (y.ig n) (s.R n).length (y.ic n) (y.dg n) (s.D n).length (y.dc n) (s.R n) (s.D n) _ _ (cell_of_row B.1 0) (cell_of_row B.2.1 0) ((hy.keep0 B.2.2.2.2.2).c2)
    (fun w1 k => (hy.keep0 (B.2.2.2.2.2.trans k)).hm.ok h1 hn (by omega))
    (fun w1 k => oclone_any w1 _ _ _ _ _ _ _ _ ((hy.keep0 (B.2.2.2.2.2.trans k)).hi n hn) ((hy.keep0 (B.2.2.2.2.2.trans k)).hd n h1 hn) rfl rfl (by omega) (by omega)) B.2.2.1 B.2.2.2.1
  generalize hW : (((((w.alloc (.cells #[.pointer (some ⟨p, 0, none⟩)] 24)).alloc (.cells #[.int .i64 n] 3)).alloc (.cells #[.slice none 0 0] 37)).alloc (.cells #[.slice none 0 0] 73)).alloc (.cells #[.int .i64 0] 25)) = W at hc B
  refine (mx_Object w (some ⟨p, 0, none⟩) n 0 (fun w2 => ObMade W (w.heap.size + 1 + 1) (w.heap.size + 1 + 1 + 1) (s.R n).length (s.D n).length (s.R n) (s.D n) (.returned (.tuple #[])) w2)
    (caught_ok _ 90 #[.pointer (some ⟨w.heap.size, 0, none⟩), .pointer (some ⟨w.heap.size + 1, 0, none⟩), .pointer (some ⟨w.heap.size + 1 + 1, 0, none⟩), .pointer (some ⟨w.heap.size + 1 + 1 + 1, 0, none⟩)] _ (enters_of Tryz.func90 (by kernel_rfl) rfl) (by rw [hW]; exact hc.mono fun e w2 h => ⟨h.1, ⟨rfl, h.2⟩⟩) fun w2 hq => ?_) fun w2 hq => ?_).mono ?_
  · obtain ⟨_, a1, e1, a2, e2, r1, r2, q1, q2, k⟩ := hq
    simpa [World.size_alloc] using k.row (by simp; omega) B.2.2.2.2.1
  · obtain ⟨_, a1, e1, a2, e2, r1, r2, q1, q2, k⟩ := hq
    exact ⟨_, _, _, _, _, _, q1, q2⟩
  · rintro e w' ⟨a1, a2, n1, c1, n2, c2, rfl, w2, hq, p1, p2, hk⟩
    obtain ⟨_, b1, e1, b2, e2, r1, r2, q1, q2, k⟩ := hq
    obtain ⟨rfl, rfl, rfl⟩ := slice_inj p1 q1
    obtain ⟨rfl, rfl, rfl⟩ := slice_inj p2 q2
    have hE := k.row (by simp; omega) B.2.2.2.2.1
    refine ⟨b1, _, b2, _, rfl, r1.2.keep hk (by simpa using And.intro (r1.2.ne q1 (by decide)) (And.intro (r1.2.ne q2 (by decide)) (r1.2.ne hE (by decide)))), r2.2.keep hk (by simpa using And.intro (r2.2.ne q1 (by decide)) (And.intro (r2.2.ne q2 (by decide)) (r2.2.ne hE (by decide)))), ?_⟩
    exact kp_root (T := []) B.2.2.2.2.2 (Kp.refl _ _) ((k.mono (by simp)).trans hk) (by simp <;> omega)
theorem g_Object_no (hy : Gy w p s y) (hw : Wf s M) (hM : M ≤ 10000) {x : Int} (hx : x < 1 ∨ (s.m : Int) < x) (hf : (Lit.int .i64 x).wf = true) :
    Calls Tryz.prog 52 #[.pointer (some ⟨p, 0, none⟩), .int .i64 x] w (Fail w (.tuple #[.slice none 0 0, .slice none 0 0, .int .i64 5])) := by
  have B := bx_Object w (some ⟨p, 0, none⟩) x
  exact no_Object w (some ⟨p, 0, none⟩) x 5 (object1_no _ _ _ _ _ p y.B x (cell_of_row B.1 0) (cell_of_row B.2.1 0) ((hy.keep0 B.2.2.2.2.2).c2) fun w1 k => (hy.keep0 (B.2.2.2.2.2.trans k)).hm.no hf hx)
theorem g_Own_ok (hy : Gy w p s y) (hw : Wf s M) {t : Nat} (ht : t < s.nt) :
    Calls Tryz.prog 54 #[.pointer (some ⟨p, 0, none⟩), .int .i64 t] w (OwIs w (s.A t) (s.L t)) := by
  have B := bx_Own w (some ⟨p, 0, none⟩) t
  have hc := own1_ok _ (w.heap.size) (w.heap.size + 1) (w.heap.size + 1 + 1) (w.heap.size + 1 + 1 + 1) p (y.qs t) t (s.A t) (s.L t) _ _ (cell_of_row B.1 0) (cell_of_row B.2.1 0) ((th_is hy hw ht (xs := []) (by simp) (by simp)).on B.2.2.2.2.2) ((hy.keep0 B.2.2.2.2.2).hq t ht) B.2.2.1 B.2.2.2.1 (by omega)
  generalize hW : (((((w.alloc (.cells #[.pointer (some ⟨p, 0, none⟩)] 24)).alloc (.cells #[.int .i64 t] 3)).alloc (.cells #[.slice none 0 0] 37)).alloc (.cells #[.slice none 0 0] 37)).alloc (.cells #[.int .i64 0] 25)) = W at hc B
  refine (mx_Own w (some ⟨p, 0, none⟩) t 0 (fun w2 => OwMade W (w.heap.size + 1 + 1) (w.heap.size + 1 + 1 + 1) (s.A t) (s.L t) (.returned (.tuple #[])) w2)
    (caught_ok _ 91 #[.pointer (some ⟨w.heap.size, 0, none⟩), .pointer (some ⟨w.heap.size + 1, 0, none⟩), .pointer (some ⟨w.heap.size + 1 + 1, 0, none⟩), .pointer (some ⟨w.heap.size + 1 + 1 + 1, 0, none⟩)] _ (enters_of Tryz.func91 (by kernel_rfl) rfl) (by rw [hW]; exact hc.mono fun e w2 h => ⟨h.1, ⟨rfl, h.2⟩⟩) fun w2 hq => ?_) fun w2 hq => ?_).mono ?_
  · obtain ⟨_, a1, e1, a2, e2, r1, r2, q1, q2, k⟩ := hq
    simpa [World.size_alloc] using k.row (by simp; omega) B.2.2.2.2.1
  · obtain ⟨_, a1, e1, a2, e2, r1, r2, q1, q2, k⟩ := hq
    exact ⟨_, _, _, _, _, _, q1, q2⟩
  · rintro e w' ⟨a1, a2, n1, c1, n2, c2, rfl, w2, hq, p1, p2, hk⟩
    obtain ⟨_, b1, e1, b2, e2, r1, r2, q1, q2, k⟩ := hq
    obtain ⟨rfl, rfl, rfl⟩ := slice_inj p1 q1
    obtain ⟨rfl, rfl, rfl⟩ := slice_inj p2 q2
    have hE := k.row (by simp; omega) B.2.2.2.2.1
    have kr : ∀ {v : Value} {xs : List Int}, Rd w2 v xs → Rd w' v xs := fun r => r.keep hk fun g hg => by simpa using And.intro (r.nin q1 (by decide) g hg) (And.intro (r.nin q2 (by decide) g hg) (r.nin hE (by decide) g hg))
    exact ⟨b1, _, b2, _, rfl, kr r1, kr r2, kp_root (T := []) B.2.2.2.2.2 (Kp.refl _ _) ((k.mono (by simp)).trans hk) (by simp <;> omega)⟩
theorem g_Own_no (hy : Gy w p s y) {t : Int} (ht : bT s t = true) :
    Calls Tryz.prog 54 #[.pointer (some ⟨p, 0, none⟩), .int .i64 t] w (Fail w (.tuple #[.slice none 0 0, .slice none 0 0, .int .i64 2])) := by
  have B := bx_Own w (some ⟨p, 0, none⟩) t
  exact no_Own w (some ⟨p, 0, none⟩) t 2 (own1_th _ _ _ _ _ (some ⟨p, 0, none⟩) t 2 (cell_of_row B.1 0) (cell_of_row B.2.1 0) ((th_bad hy ht []).on B.2.2.2.2.2))
theorem g_Globals (hy : Gy w p s y) (hw : Wf s M) :
    Calls Tryz.prog 55 #[.pointer (some ⟨p, 0, none⟩)] w fun e w' => ∃ g c, e = .returned (.slice (some ⟨g, 0, none⟩) (s.R 0).length c) ∧ Ro 3 .i64 w' g (s.R 0) ∧ Kp [] w w' := by
  have h8 := hw.g8
  have hc := (clone_int w (y.ig 0) (y.ic 0) (s.R 0) (hy.hi 0 (Nat.zero_le _)) (by omega)).mono fun e w2 h => h.cop rfl
  have c1 := hy.c1
  obtain ⟨n, hn⟩ : ∃ n, n = (s.R 0).length := ⟨_, rfl⟩
  rw [← hn] at hc c1 ⊢
  clear hn h8 hw hy
  go_enter Tryz.func55, Tryz.ntmps55
  go_wp2_with fail
  refine hc.mono ?_
  rintro e w2 ⟨g, c, rfl, hr, hk⟩
  have H := Lib.hid (And.intro hr.2.1 hk)
  clear hr hk hc c1
  go_wp2_with fail
  go_ret
  exact ⟨g, c, rfl, H.out⟩
end

end Go.Proofs.YtmbhhadghiojeaaGreat
