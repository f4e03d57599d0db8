/- ArenaPlays's pieces: the document's Touch by the arena's state; the closure that counts; Update by it. Conditions: as each theorem states them. -/
import Derived.Test.YtpcoclbokpffaaaArnRef
namespace Go.Proofs.Ytpcoclbokpffaaa
set_option linter.unusedVariables false
set_option linter.unusedSimpArgs false
open Go.RowKit

theorem set_same (ws : List Int) (i : Nat) (h : i < ws.length) : ws.set i (ws.getD i 0) = ws := by
  apply List.ext_getElem?
  intro j
  by_cases e : i = j
  · subst e; simp [List.getD, h]
  · simp [e]

theorem lastOf_upd {s : St} {k y : Int} (h : inB s k = true) : lastOf (upd s k y) = k := by simp [lastOf, upd_in h]

theorem rtouch_any (w : World) (g cap : Nat) (s : St) (k v : Int) (wr : Bool) (hrow : Rw w g cap s.ws) (hn1 : 1 ≤ s.ws.length) (hn : s.ws.length ≤ 4096) (ht : s.t ≤ 4096) :
    Calls Try.prog 9 #[.agg #[.slice (some ⟨g, 0, none⟩) s.ws.length cap, .int .u64 s.t, .int .i64 (lastOf s)], .int .i64 k, .bool wr, .int .u64 v] w fun e w' =>
      ∃ g' cap', e = .returned (.tuple #[.agg #[.slice (some ⟨g', 0, none⟩) s.ws.length cap', .int .u64 (upd s k (if wr then v else was s k)).t, .int .i64 (lastOf (upd s k (if wr then v else was s k)))], .int .u64 (was s k)]) ∧ Rw w' g' cap' (upd s k (if wr then v else was s k)).ws ∧ (g' = g ∨ w.heap.size ≤ g') ∧ Kp [] w w' := by
  by_cases h : inB s k = true
  · obtain ⟨h0, h1⟩ := inB_iff.1 h
    refine (rtouch_in w g cap s.ws s.t (lastOf s) k v wr hrow hn1 hn ht h0 h1).mono ?_
    rintro e w' ⟨g', cap', rfl, hr, hg, hk⟩
    rw [lastOf_upd h, was_in h, upd_in h]
    refine ⟨g', cap', rfl, ?_, .inr hg, hk⟩
    cases wr
    · simp only [Bool.false_eq_true, if_false] at hr ⊢
      rw [set_same _ _ (by omega)]
      exact hr
    · exact hr
  · have h' : inB s k = false := by simpa using h
    have hk : k < 0 ∨ (0 ≤ k ∧ (s.ws.length : Int) ≤ k) := by
      by_cases q : 0 ≤ k
      · exact .inr ⟨q, Int.not_lt.1 fun h1 => h (inB_iff.2 ⟨q, h1⟩)⟩
      · exact .inl (by omega)
    refine (rtouch_out w g cap s.ws.length s.t (lastOf s) k v wr hn hk).mono ?_
    rintro e w' ⟨rfl, hkp⟩
    rw [was_out h', upd_out h']
    exact ⟨g, cap, rfl, hrow.keep hkp (by simp), .inl rfl, hkp⟩

theorem f13 (x d k v q : Int) (ab b : Nat) (w : World) (hq0 : 0 ≤ q) (hq : q ≤ 10) (hab : w.heap[ab]? = some (.cells #[.int .i64 q] 3 (0, 0))) (hb : w.heap[b]? = some (.cells #[.int .u8 d, .int .i64 k, .int .u64 v] 34 (0, 0))) :
    Calls Try.prog 13 #[.int .u64 x, .pointer (some ⟨ab, 0, none⟩), .pointer (some ⟨b, 0, none⟩)] w fun e w2 => e = .returned (.int .u64 (IntKind.u64.wrap (x + v))) ∧ w2 = w.setCell ⟨ab, 0, none⟩ (.int .i64 (q + 1)) := by
  have hc : w.cell? ⟨b, 2, none⟩ = some (.int .u64 v) := by rw [cell_of_row hb]; rfl
  have ha := cell_of_one hab
  have hf := free_of_one hab
  have hne : ab ≠ b := by
    intro e; subst e
    have := hab.symm.trans hb
    simp at this
  have hne2 : ¬ b = ab := fun e => hne e.symm
  clear hab hb
  go_enter Try.func13, Try.ntmps13
  go_wp2
  go_ret
  exact ⟨rfl, rfl⟩

/-- Update by the closure that counts how often it is asked. -/
theorem upd_ask (w : World) (p r : Nat) (s : St) (c d v : Int) (ab xb : Nat) (h : Ar w p r s) (hn : s.ws.length ≤ 4096) (ht : s.t ≤ 4096) (hap : ab ≠ p) (har : ab ≠ r) (hxp : xb ≠ p)
    (hab : w.heap[ab]? = some (.cells #[.int .i64 0] 3 (0, 0))) (hb : w.heap[xb]? = some (.cells #[.int .u8 d, .int .i64 c, .int .u64 v] 34 (0, 0))) :
    Calls Try.prog 12 #[.pointer (some ⟨p, 0, none⟩), .int .i64 c, .func (.func 13) #[] #[.pointer (some ⟨ab, 0, none⟩), .pointer (some ⟨xb, 0, none⟩)]] w fun e w' =>
      e = .returned (.int .u64 (was s c)) ∧ Ar w' p r (upd s c (IntKind.u64.wrap (was s c + v))) ∧ w'.heap[ab]? = some (.cells #[.int .i64 (if inB s c then 1 else 0)] 3 (0, 0)) ∧ Kp [p, r, ab] w w' := by
  by_cases hk : inB s c = true
  · have h3 : c.toNat < s.ws.length := by have := inB_iff.1 hk; omega
    have hkp := tw_kp w p s.t c
    have hab1 := hkp.row (by simpa using hap) hab
    have ht1 := h.tw c
    have hc := f13 (was s c) d c v 0 ab xb (tw w p s.t c) (by omega) (by omega) hab1 (hkp.row (by simpa using hxp) hb)
    have hkp2 : Kp [ab] (tw w p s.t c) ((tw w p s.t c).setCell ⟨ab, 0, none⟩ (.int .i64 (0 + 1))) := (Kp.refl _ _).setCell (.inl (by simp)) _
    have ht2 := ht1.keep hkp2 (by simpa using Ne.symm hap) (by simpa using Ne.symm har)
    rw [was_in hk] at hc ⊢
    rw [upd_in hk, hk]
    refine (upd_yes w p r s c 13 #[.pointer (some ⟨ab, 0, none⟩), .pointer (some ⟨xb, 0, none⟩)] _ _ _ h hn ht hk (fun _ _ => rfl) hc (ht2.cr h3) (ht2.fr _)).mono ?_
    rintro e w' ⟨rfl, rfl⟩
    refine ⟨rfl, ht2.store _ _, ?_, ?_⟩
    · rw [heap_setCell_other _ _ _ _ (by simpa using har)]
      have := one_setCell (u := .int .i64 (0 + 1)) hab1
      simpa using this
    · exact (((hkp.mono (T := [p, r, ab]) (by simp)).trans (hkp2.mono (by simp)))).setCell (.inl (by simp)) _
  · have hk' : inB s c = false := by simpa using hk
    rw [was_out hk', upd_out hk', hk']
    refine (upd_no w p r s c 13 #[] _ h hn hk').mono ?_
    rintro e w' ⟨rfl, rfl⟩
    exact ⟨rfl, h, by simpa using hab, Kp.refl _ _⟩

theorem Rw.ne {w : World} {g cap b : Nat} {ws : List Int} {cs : Array Value} {t : TypeId} (h : Rw w g cap ws) (hb : w.heap[b]? = some (.cells cs t (0, 0))) (ht : t ≠ 29) : g ≠ b := by
  obtain ⟨⟨cur, h1, _⟩, _⟩ := h
  intro e; subst e
  have := hb.symm.trans h1
  simp at this
  exact ht this.2

/-- The cells of the document's own arena. -/
abbrev aggOf (g cap : Nat) (s : St) : Array Value := #[.slice (some ⟨g, 0, none⟩) s.ws.length cap, .int .u64 s.t, .int .i64 (lastOf s)]

set_option maxRecDepth 100000 in
set_option maxHeartbeats 4000000 in
theorem plays_skip (w : World) (n : Int) (ao : Option Addr) (len cap : Nat) (h : 100 < len ∨ n < 1 ∨ 300 < n) :
    Calls Try.prog 3 #[.int .i64 n, .slice ao len cap] w fun e w' => e = .returned (.bool true) ∧ Below w.heap.size w w' := by
  by_cases h1 : 100 < len
  · go_enter Try.func3, Try.ntmps3
    go_wp2_with fail
    refine (wakes_any _).mono ?_
    rintro e w1 ⟨rfl, hb⟩
    go_wp2
    go_ret
    exact ⟨rfl, hb⟩
  · by_cases h2 : n < 1
    · have hnew := new_bad w n (.inl h2)
      have h3 : ¬ 300 < n := by omega
      go_enter Try.func3, Try.ntmps3
      go_wp2_with fail
      refine hnew.mono ?_
      rintro e w1 ⟨rfl, rfl⟩
      go_wp2_with fail
      refine (wakes_any _).mono ?_
      rintro e w2 ⟨rfl, hb⟩
      go_wp2
      go_ret
      exact ⟨rfl, hb⟩
    · have h3 : 300 < n := by omega
      by_cases h4 : 4096 < n
      · have hnew := new_bad w n (.inr h4)
        have h5 : ¬ n ≤ 4096 := by omega
        go_enter Try.func3, Try.ntmps3
        go_wp2_with fail
        refine hnew.mono ?_
        rintro e w1 ⟨rfl, rfl⟩
        go_wp2_with fail
        refine (wakes_any _).mono ?_
        rintro e w2 ⟨rfl, hb⟩
        go_wp2
        go_ret
        exact ⟨rfl, hb⟩
      · have h5 : n ≤ 4096 := by omega
        go_enter Try.func3, Try.ntmps3
        go_wp2_with fail
        refine (wakes_any _).mono ?_
        rintro e w1 ⟨rfl, hb⟩
        go_wp2
        go_ret
        exact ⟨rfl, hb⟩

end Go.Proofs.Ytpcoclbokpffaaa
