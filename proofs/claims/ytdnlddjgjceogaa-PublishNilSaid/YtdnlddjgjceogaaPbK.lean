/- Package publish: the walks of its laws' wakes, PublishNil, PublishTells. Conditions: as each theorem states them. -/
import Derived.Test.YtdnlddjgjceogaaPbJ
namespace Go.Proofs.Ytdnlddjgjceogaa
set_option linter.unusedVariables false
set_option linter.unusedSimpArgs false
set_option maxRecDepth 100000
open Go.RowKit

theorem pub_nil (w : World) (k c : Int) (v : Value) : Calls Try.prog 10 #[.nilIface, .int .i64 k, .int .u8 c, v] w fun e w' => e = .returned (.tuple #[]) ∧ w = w' := by
  go_enter Try.func10, Try.ntmps10
  go_wp2
  exact bodyPost_ret (results_none Try.results10 _ _ _) rfl ⟨rfl, rfl⟩
theorem pub_none (w : World) (p : Nat) (k c : Int) : Calls Try.prog 10 #[.iface 27 (.pointer (some ⟨p, 0, none⟩)), .int .i64 k, .int .u8 c, .pointer none] w fun e w' => e = .returned (.tuple #[]) ∧ w = w' := by
  go_enter Try.func10, Try.ntmps10
  go_wp2
  exact bodyPost_ret (results_none Try.results10 _ _ _) rfl ⟨rfl, rfl⟩
theorem pub_dark (w : World) (p b : Nat) (k c : Int) (hc : 1 < c) : Calls Try.prog 10 #[.iface 27 (.pointer (some ⟨p, 0, none⟩)), .int .i64 k, .int .u8 c, .pointer (some ⟨b, 0, none⟩)] w fun e w' => e = .returned (.tuple #[]) ∧ w = w' := by
  go_enter Try.func10, Try.ntmps10
  go_wp2
  exact bodyPost_ret (results_none Try.results10 _ _ _) rfl ⟨rfl, rfl⟩

theorem take_g5 (w : World) : Calls Try.prog 15 #[.int .u64 528391] w fun e w' => e = .returned (.tuple #[.agg (hc7 3 1 false false 0 2 2), .int .i64 0]) ∧ Kp [] w w' :=
  (take_yes 528391 w (by decide) (by decide) (by decide)).mono fun _ _ ⟨he, hb⟩ => ⟨he, kp_of_below hb⟩
theorem take_g9 (w : World) : Calls Try.prog 15 #[.int .u64 3] w fun e w' => e = .returned (.tuple #[.agg (hc7 3 0 false false 0 0 0), .int .i64 0]) ∧ Kp [] w w' :=
  (take_yes 3 w (by decide) (by decide) (by decide)).mono fun _ _ ⟨he, hb⟩ => ⟨he, kp_of_below hb⟩

theorem kp_news {S : List Nat} {a w w2 : World} (h : Kp [] a w) (k : Kp S w w2) (hb : ∀ x ∈ S, a.heap.size ≤ x) : Kp [] a w2 :=
  ⟨k.os.trans h.os, k.tape.trans h.tape, k.output.trans h.output, Nat.le_trans h.size k.size, fun i hi hn => (k.block i (Nat.lt_of_lt_of_le hi h.size) (fun hx => by have := hb i hx; omega)).trans (h.block i hi hn)⟩
/-- An arena, and an empty worklist in a new box. -/
theorem PQ.start {w : World} {p r : Nat} {s : St} (ha : Ar w p r s) (hok : ∀ j, 0 ≤ s.ws.getD j 0 ∧ s.ws.getD j 0 < 33554432) (hn : s.ws.length ≤ 4096) :
    PQ (w.alloc (.cells #[.slice none 0 0] 32)) p r w.heap.size s [] (w.alloc (.cells #[.slice none 0 0] 32)) := by
  have hl := ha.lt
  refine ⟨ha.keep ((Kp.refl [] w).alloc _) (by simp) (by simp), Kp.refl _ _, ⟨_, heap_alloc_new w _, Qw.nil _ _⟩, by simp; omega, fun k => ?_, hn⟩
  by_cases hk : 0 ≤ k
  · obtain ⟨j, rfl⟩ : ∃ j : Nat, k = j := ⟨k.toNat, by omega⟩
    rw [was_nat]
    exact hok j
  · rw [was_neg _ _ (by omega)]; decide
theorem cntL_le (s : St) : cntL s ≤ s.ws.length := List.countP_le_length

/-- The known things, in the call's own row. -/
def cs30 : Array Value := (L3.flatMap Tg.cs).toArray
theorem L3_lies (w : World) (b : Nat) (h : w.heap[b]? = some (.cells cs30 43 (0, 0))) : Things w (some ⟨b, 0, none⟩) L3 := by
  intro i x hx
  refine ⟨L3_ok x (List.mem_of_getElem? hx), b, 0, rfl, lt_of_block h, fun j v hv => ?_⟩
  have hi : i < 3 := (List.getElem?_eq_some_iff.1 hx).1
  have hj : j < 10 := by
    have := (List.getElem?_eq_some_iff.1 hv).1
    simpa [Tg.cs] using this
  rw [cell_of_row h, ← hv]
  rcases (by omega : i = 0 ∨ i = 1 ∨ i = 2) with rfl | rfl | rfl
  all_goals
    obtain rfl := Option.some.inj hx
    rcases (by omega : j = 0 ∨ j = 1 ∨ j = 2 ∨ j = 3 ∨ j = 4 ∨ j = 5 ∨ j = 6 ∨ j = 7 ∨ j = 8 ∨ j = 9) with rfl | rfl | rfl | rfl | rfl | rfl | rfl | rfl | rfl | rfl <;> rfl

set_option maxHeartbeats 2000000 in
theorem wakes16 (w : World) : Calls Try.prog 6 #[] w fun e w' => e = .returned (.bool true) ∧ Kp [] w w' := by
  have hnil := eq_nilptr
  go_enter Try.func6, Try.ntmps6
  have hpl : ∀ w, Calls Try.prog 8 #[.int .i64 2] w fun e w' => e = .returned (.int .i64 5) ∧ w = w' := fun w => place_is 2 w (by decide) (by decide)
  have hpl3 : ∀ w, Calls Try.prog 8 #[.int .i64 3] w fun e w' => e = .returned (.int .i64 9) ∧ w = w' := fun w => place_is 3 w (by decide) (by decide)
  have HPL := Lib.hid (And.intro hpl hpl3)
  clear hpl hpl3
  have heq5 := fun w => eq28 3 1 0 2 2 3 1 0 2 2 false false false false w
  rw [show heqB 3 1 0 2 2 3 1 0 2 2 false false false false = true from rfl] at heq5
  have heq9 := fun w => eq28 3 0 0 0 0 3 0 0 0 0 false false false false w
  rw [show heqB 3 0 0 0 0 3 0 0 0 0 false false false false = true from rfl] at heq9
  have k1 : Kp [] w ((w.alloc (.cells (hc7 2 0 false false 0 2 2) 40)).alloc (.cells cs30 43)) := ((Kp.refl _ _).alloc _).alloc _
  have hb1 : ((w.alloc (.cells (hc7 2 0 false false 0 2 2) 40)).alloc (.cells cs30 43)).heap[w.heap.size + 1]? = some (.cells cs30 43 (0, 0)) := by
    have := heap_alloc_new (w.alloc (.cells (hc7 2 0 false false 0 2 2) 40)) (.cells cs30 43)
    rw [World.size_alloc] at this
    exact this
  have HWd := Lib.hid (words_any _ (some ⟨w.heap.size + 1, 0, none⟩) 3 3 L3 rfl (L3_lies _ _ hb1) (by decide))
  have K1 := Lib.hid k1
  clear k1 hb1
  go_wp2_with fail
  refine HWd.out.mono ?_
  rintro e w1 ⟨hk1, hor⟩
  obtain ⟨v, rfl, hrw⟩ : ∃ v, e = .returned (.tuple #[v, .bool true]) ∧ Rw 30 1 _ w1 v (4 * 3 + 1) (u64l (wordsT 3 L3)) := by
    rcases hor with ⟨_, h⟩ | ⟨h, _⟩
    · exact h
    · rw [L3_all] at h; cases h
  obtain ⟨b2, cap2, rfl, hb2, hn2, hwd2⟩ := Wd.of_rw hrw (by decide)
  have HM := Lib.hid (made_any w1 b2 0 cap2 13 (wordsT 3 L3) (by rw [L3_words]; rfl) (by decide) (by decide) hwd2)
  have K2 := Lib.hid (K1.out.trans hk1)
  clear hor hrw hk1 hb2 hn2 hwd2 HWd K1
  go_wp2_with fail
  refine HM.out.mono ?_
  rintro e w2 ⟨p, r, s, rfl, ha, hs, ht, hp, hr, hk2⟩
  have F2 := Lib.hid (And.intro ha (And.intro hs (And.intro ht (And.intro hp (And.intro hr (K2.out.trans hk2))))))
  have HZ2 := Lib.hid K2.out.size
  clear ha hs ht hp hr hk2 HM K2
  have hok3 : ∀ j, 0 ≤ s.ws.getD j 0 ∧ s.ws.getD j 0 < 33554432 := by rw [F2.out.2.1]; exact wordsT_ok L3_ok L3_all (by decide)
  have hln : s.ws.length = 13 := by rw [F2.out.2.1, L3_words]; rfl
  have hcn := cntL_le s
  have P2 := PQ.start F2.out.1 hok3 (by omega)
  have HPB := Lib.hid (publish_any P2 (by have := F2.out.2.2.1; omega) (by omega) 1 1 (by decide) (by decide))
  have KB := Lib.hid (F2.out.2.2.2.2.2.alloc (.cells #[.slice none 0 0] 32))
  have HT := Lib.hid (And.intro F2.out.2.1 F2.out.2.2.1)
  have HPR := Lib.hid (And.intro F2.out.2.2.2.1 F2.out.2.2.2.2.1)
  have HBW := Lib.hid F2.out.2.2.2.2.2.size
  clear P2 hok3 hcn hln
  go_upto_region 7 with (fail)
  generalize hbw : w2.heap.size = bw at *
  generalize w2.alloc (.cells #[.slice none 0 0] 32) = w3 at *
  clear hbw F2
  go_wp2_with fail
  refine HPB.out.mono ?_
  rintro e w4 ⟨rfl, n, s', hn, ht', hq4⟩
  obtain ⟨x5, x9⟩ := wakes_left HT.out.1 hn
  have HQ4 := Lib.hid hq4
  have K4 := Lib.hid (kp_news KB.out hq4.kp (fun x hx => by simp only [List.mem_cons, List.not_mem_nil, or_false] at hx; have h1 := HPR.out; have h2 := HZ2.out; have h3 := HBW.out; rcases hx with rfl | rfl | rfl <;> omega))
  have HS5 : Hid (∃ s2, s2.t ≤ 900000 ∧ was s2 5 = 528391 ∧ was s2 9 = 3 ∧ PQ w3 p r bw s2 [] w4 ∧ Kp [] w w4) := Lib.hid ⟨s', ht', x5, x9, HQ4.out, K4.out⟩
  clear hn ht' hq4 x5 x9 HQ4 K4 HPB KB HT
  go_wp2_with fail
  refine (HPL.out.1 _).mono ?_
  rintro e wp ⟨rfl, rfl⟩
  have HR5 : Hid (Calls Try.prog 16 #[.pointer (some ⟨p, 0, none⟩), .int .i64 5] w4 fun e w' => e = .returned (.int .u64 528391) ∧ ∃ s2, s2.t ≤ 960000 ∧ (was s2 9 = 3) ∧ PQ w3 p r bw s2 [] w' ∧ Kp [] w w') := Lib.hid (by
    obtain ⟨s2, t2, v2, v9, q2, k2⟩ := HS5.out
    refine (read_any w4 p r s2 5 q2.ar q2.n (by omega)).mono fun e w' ⟨h1, h2, h3⟩ => ?_
    have q3 := q2.read (k := 5) h2 h3
    refine ⟨by rw [h1, v2], rdS s2 5, by have := rdS_t s2 5; omega, by rw [rdS, was_upd]; split <;> simp_all, q3, kp_news k2 h3 (fun x hx => by simp only [List.mem_cons, List.not_mem_nil, or_false] at hx; have h1 := HPR.out; have h2 := HZ2.out; rcases hx with rfl | rfl <;> omega)⟩)
  go_wp2_with fail
  refine HR5.out.mono ?_
  rintro e w5 ⟨rfl, hs5⟩
  go_wp2_with fail
  refine (take_g5 _).mono ?_
  rintro e w6 ⟨rfl, hk6⟩
  have HS9 : Hid (∃ s2, s2.t ≤ 960000 ∧ was s2 9 = 3 ∧ was s2 9 = 3 ∧ PQ w3 p r bw s2 [] (w6.alloc (.cells (hc7 3 1 false false 0 2 2) 46)) ∧ Kp [] w (w6.alloc (.cells (hc7 3 1 false false 0 2 2) 46))) := by
    obtain ⟨s2, t2, v9, q2, k2⟩ := hs5
    exact Lib.hid ⟨s2, t2, v9, v9, (q2.on hk6).on ((Kp.refl [] _).alloc _), (k2.trans hk6).alloc _⟩
  have HB6 := Lib.hid (heap_alloc_new w6 (.cells (hc7 3 1 false false 0 2 2) 46))
  clear hs5 hk6 HR5 HS5
  go_upto_region 9 with (fail)
  generalize hz6 : w6.heap.size = z6 at *
  generalize w6.alloc (.cells (hc7 3 1 false false 0 2 2) 46) = w7 at *
  clear hz6
  go_wp2_with fail
  refine (HPL.out.2 _).mono ?_
  rintro e wp ⟨rfl, rfl⟩
  have HR9 : Hid (Calls Try.prog 16 #[.pointer (some ⟨p, 0, none⟩), .int .i64 9] w7 fun e w' => e = .returned (.int .u64 3) ∧ ∃ s2, PQ w3 p r bw s2 [] w' ∧ Kp [] w w' ∧ Kp [p, r] w7 w') := Lib.hid (by
    obtain ⟨s2, t2, v2, v9, q2, k2⟩ := HS9.out
    refine (read_any w7 p r s2 9 q2.ar q2.n (by omega)).mono fun e w' ⟨h1, h2, h3⟩ => ?_
    have q3 := q2.read (k := 9) h2 h3
    refine ⟨by rw [h1, v2], rdS s2 9, q3, kp_news k2 h3 (fun x hx => by simp only [List.mem_cons, List.not_mem_nil, or_false] at hx; have h1 := HPR.out; have h2 := HZ2.out; rcases hx with rfl | rfl <;> omega), h3⟩)
  have HZ7 : Hid (∀ w', Kp [p, r] w7 w' → w'.heap[z6]? = some (.cells (hc7 3 1 false false 0 2 2) 46 (0, 0))) := by
    obtain ⟨s2, _, _, _, q2, _⟩ := HS9.out
    exact Lib.hid fun w' k => k.row (by simp only [List.mem_cons, List.not_mem_nil, or_false, not_or]; exact ⟨ne_types HB6.out q2.ar.hp (by decide), ne_types HB6.out q2.ar.hr (by decide)⟩) HB6.out
  go_wp2_with fail
  refine HR9.out.mono ?_
  rintro e w8 ⟨rfl, s9, q9, k9, k79⟩
  go_wp2_with fail
  refine (take_g9 _).mono ?_
  rintro e w9 ⟨rfl, hk9⟩
  have ka : Kp [] w8 (w9.alloc (.cells (hc7 3 0 false false 0 0 0) 46)) := hk9.alloc _
  have r6 := ka.row (by simp) (HZ7.out w8 k79)
  have r9 := heap_alloc_new w9 (.cells (hc7 3 0 false false 0 0 0) 46)
  obtain ⟨vq, hbx, hqq⟩ := (q9.on ka).q
  obtain ⟨aoq, cpq, rfl⟩ := hqq.formN (n := 0) rfl
  have cq := hbx.cell
  have KF := Lib.hid (k9.trans ka)
  clear q9 k9 k79 hk9 ka hbx hqq HZ7 HR9 HB6 HS9
  go_upto_region 10 with (fail)
  generalize hz9 : w9.heap.size = z9 at *
  generalize w9.alloc (.cells (hc7 3 0 false false 0 0 0) 46) = wF at *
  clear hz9
  have a0 := (cell_of_row r6 0).trans (show _ = some (.int .u8 3) from rfl)
  have a1 := (cell_of_row r6 1).trans (show _ = some (.int .u8 1) from rfl)
  have a2 := (cell_of_row r6 2).trans (show _ = some (.bool false) from rfl)
  have a3 := (cell_of_row r6 3).trans (show _ = some (.bool false) from rfl)
  have a4 := (cell_of_row r6 4).trans (show _ = some (.int .u8 0) from rfl)
  have a5 := (cell_of_row r6 5).trans (show _ = some (.int .u8 2) from rfl)
  have a6 := (cell_of_row r6 6).trans (show _ = some (.int .u8 2) from rfl)
  have b0 := (cell_of_row r9 0).trans (show _ = some (.int .u8 3) from rfl)
  have b1 := (cell_of_row r9 1).trans (show _ = some (.int .u8 0) from rfl)
  have b2 := (cell_of_row r9 2).trans (show _ = some (.bool false) from rfl)
  have b3 := (cell_of_row r9 3).trans (show _ = some (.bool false) from rfl)
  have b4 := (cell_of_row r9 4).trans (show _ = some (.int .u8 0) from rfl)
  have b5 := (cell_of_row r9 5).trans (show _ = some (.int .u8 0) from rfl)
  have b6 := (cell_of_row r9 6).trans (show _ = some (.int .u8 0) from rfl)
  clear r6 r9
  go_wp2_with fail
  go_ret
  exact ⟨rfl, KF.out⟩

end Go.Proofs.Ytdnlddjgjceogaa
