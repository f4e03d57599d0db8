/- The walk of Decode. Conditions: none. -/
import Derived.Test.YtclegfpgmhajmaaScE
import Derived.Test.YtclegfpgmhajmaaScR
import Derived.Deep.AppendLies
import Derived.Deep.LoopGhost
import Derived.Deep.CutRange
import Derived.Deep.CutBlock
import Derived.Deep.DeepCutAuto
import Derived.WalkMore
namespace Go.Proofs.Ytclegfpgmhajmaa
set_option linter.unusedVariables false
set_option linter.unusedSimpArgs false
open Go.RowKit

/-- What Decode answers, and where. -/
def DecP (T : TypeId) (w : World) (s : List UInt8) (e : Ending) (w' : World) : Prop :=
  Kp [] w w' ∧ ((4000 < s.length ∧ e = .returned (.tuple #[.slice none 0 0, .int .i64 8])) ∨
    (s.length ≤ 4000 ∧ (∀ M, ¬ Is s M) ∧ e = .returned (.tuple #[.slice none 0 0, .int .i64 3])) ∨
    (s.length ≤ 4000 ∧ ∃ (L : List Ent) (n : Nat) (ao : Option Addr) (c : Nat), Is s L ∧ e = .returned (.tuple #[.slice ao n c, .int .i64 0]) ∧ Er T w.heap.size w' (.slice ao n c) n L))
theorem DecP.long {T : TypeId} {w w' : World} {s : List UInt8} (h : 4000 < s.length) (k : Kp [] w w') : DecP T w s (.returned (.tuple #[.slice none 0 0, .int .i64 8])) w' := ⟨k, .inl ⟨h, rfl⟩⟩
theorem DecP.bad {T : TypeId} {w w' : World} {s : List UInt8} (h : s.length ≤ 4000) (hb : ∀ M, ¬ Is s M) (k : Kp [] w w') : DecP T w s (.returned (.tuple #[.slice none 0 0, .int .i64 3])) w' := ⟨k, .inr (.inl ⟨h, hb, rfl⟩)⟩
theorem DecP.ok {T : TypeId} {w w' : World} {s : List UInt8} {L : List Ent} {n : Nat} {ao : Option Addr} {c : Nat} (h : s.length ≤ 4000) (hi : Is s L) (he : Er T w.heap.size w' (.slice ao n c) n L) (k : Kp [] w w') : DecP T w s (.returned (.tuple #[.slice ao n c, .int .i64 0])) w' := ⟨k, .inr (.inr ⟨h, L, n, ao, c, hi, rfl, he⟩)⟩

/-- What is known in a round: L is done, r is still to be read. -/
structure DcX (T : TypeId) (w : World) (s : List UInt8) (L : List Ent) (r : List UInt8) (v : Value) (n : Nat) (wr : World) : Prop where
  row : Er T w.heap.size wr v n L
  may : allMay L
  eq : script L ++ r = s
  kp : Kp [] w wr
section
variable {T : TypeId} {w wr w' : World} {s r : List UInt8} {L : List Ent} {v : Value} {n : Nat}
theorem DcX.on (h : DcX T w s L r v n wr) (k : Kp [] wr w') : DcX T w s L r v n w' := ⟨h.row.keep0 k, h.may, h.eq, h.kp.trans k⟩
theorem DcX.bad (h : DcX T w s L r v n wr) (h0 : r ≠ []) (hb : Bad r) : ∀ M, ¬ Is s M := hb.no h.may h.eq h0
theorem DcX.ok (h : DcX T w s L [] v n wr) : Is s L := ⟨h.may, by have := h.eq; rwa [List.append_nil] at this⟩
theorem DcX.le (h : DcX T w s L r v n wr) (hs : s.length ≤ 4000) : n ≤ 4000 := by
  rw [h.row.1]
  have h1 := script_ge L
  have h2 := congrArg List.length h.eq
  rw [List.length_append] at h2
  omega
theorem DcX.next {v' : Value} {w2 : World} (h : DcX T w s L r v n wr) (hm : 2 + (entAt r).n ≤ r.length) (he : (entAt r).may = true) (hE : Er T w.heap.size w2 v' (n + 1) (L ++ [entAt r])) (k : Kp (blk v) wr w2) : DcX T w s (L ++ [entAt r]) (r.drop (2 + (entAt r).n)) v' (n + 1) w2 :=
  ⟨hE, allMay_snoc h.may he, by
    rw [script_app, script_one, List.append_assoc, ← entAt_cut hm]
    exact h.eq, h.row.2.old rfl h.kp k⟩
end

theorem dec_long (w : World) (s : ByteArray) (h : 4000 < s.size) : Calls Try.prog 14 #[.string s] w (DecP 28 w s.data.toList) := by
  have HL : Hid (4000 < s.data.toList.length) := Lib.hid (by rw [← Lib.size_eq]; exact h)
  go_enter Try.func14, Try.ntmps14
  go_wp2_with fail
  go_step3
  go_wp2_with fail
  try rw [Exit.noGoto_ret]
  go_ret2
  exact DecP.long HL.out (Kp.refl _ _)

set_option maxRecDepth 100000 in
set_option maxHeartbeats 4000000 in
theorem dec_main (w : World) (s : ByteArray) (h : s.size ≤ 4000) : Calls Try.prog 14 #[.string s] w (DecP 28 w s.data.toList) := by
  have HL : Hid (s.data.toList.length ≤ 4000) := Lib.hid (by rw [← Lib.size_eq]; exact h)
  obtain ⟨z, hz⟩ : ∃ z, z = s.size := ⟨_, rfl⟩
  have HZ := Lib.hid hz
  have H0 : Hid (DcX 28 w s.data.toList [] s.data.toList (.slice none 0 0) 0 w) := Lib.hid ⟨Er.nil _ _ _, allMay_nil, rfl, Kp.refl _ _⟩
  generalize hsl : s.data.toList = sl at HL H0 ⊢
  have HS := Lib.hid hsl
  clear hsl
  go_enter Try.func14, Try.ntmps14
  go_wp2_with fail
  go_step3
  go_wp2_with fail
  go_step3
  go_wp2_with fail
  go_loopg [0, 4] z (fun gg vs vl wr => ∃ (rb : ByteArray) (rl : List UInt8) (L : List Ent) (bo : Option Addr) (n c : Nat), vs = .string rb ∧ vl = .slice bo n c ∧ rb.size = gg ∧ gg ≤ 4000 ∧ n ≤ 4000 ∧ Hid (rb.data.toList = rl) ∧ Hid (DcX 28 w sl L rl (.slice bo n c) n wr))
  case atStart => exact ⟨s, sl, [], none, 0, 0, rfl, rfl, hz.symm, by omega, by omega, HS, H0⟩
  case round =>
    clear hz H0 HS HZ h
    obtain ⟨rb, rl, L, bo, n, c, rfl, rfl, hg, hg4, hn4, HRB, H⟩ := hrel
    have HG := Lib.hid hg
    by_cases e0 : rb.size = 0
    · have hb0 : ((rb.size : Int) == 0) = true := by simp [e0]
      have hnil : rl = [] := by rw [← HRB.out]; exact List.eq_nil_of_length_eq_zero (by rw [← Lib.size_eq]; exact e0)
      subst hnil
      clear hg
      go_wp2_with fail
      try rw [Exit.noGoto_ret]
      go_ret2
      exact DecP.ok HL.out H.out.ok H.out.row H.out.kp
    · have hb0 : ((rb.size : Int) == 0) = false := by rw [beq_eq_false_iff_ne]; omega
      have hne : rl ≠ [] := by
        intro h
        apply e0
        rw [Lib.size_eq, HRB.out, h]; rfl
      have HNE := Lib.hid hne
      clear hne hg
      by_cases e2 : rb.size < 2
      · have e2' : (rb.size : Int) < 2 := by omega
        have HB : Hid (Bad rl) := Lib.hid (.inl (by rw [← HRB.out, ← Lib.size_eq]; exact e2))
        go_wp2_with fail
        try rw [Exit.noGoto_ret]
        go_ret2
        exact DecP.bad HL.out (H.out.bad HNE.out HB.out) H.out.kp
      · have e2' : ¬ ((rb.size : Int) < 2) := by omega
        have l1 : (1 : Int) < (rb.size : Int) := by omega
        have l1' : 1 < rb.size := by omega
        obtain ⟨m, hm⟩ : ∃ m, m = (entAt rl).n := ⟨_, rfl⟩
        have hm3 : m ≤ 3 := by rw [hm]; exact Ent.n_le _
        have HA : Hid (argsN ((rb[1]'l1').toNat : Int) = m) := Lib.hid (by
          rw [hm, entAt_n, ← HRB.out, byteD rb 1 l1']; rfl)
        have HMn := Lib.hid hm
        clear hm e2
        by_cases e3 : rb.size < 2 + m
        · have e3' : (rb.size : Int) < 2 + (m : Int) := by omega
          have HB : Hid (Bad rl) := Lib.hid (.inr (.inl (by rw [← HRB.out, ← Lib.size_eq, HRB.out, ← HMn.out]; exact e3)))
          go_wp2_with fail
          refine (args_is _ _ m (by omega) HA.out).mono ?_
          rintro e w2 ⟨rfl, rfl⟩
          go_wp2_with fail
          try rw [Exit.noGoto_ret]
          go_ret2
          exact DecP.bad HL.out (H.out.bad HNE.out HB.out) H.out.kp
        · have e3' : ¬ ((rb.size : Int) < 2 + (m : Int)) := by omega
          have e4 : 2 + (m : Int) ≤ (rb.size : Int) := by omega
          go_wp2_with fail
          refine (args_is _ _ m (by omega) HA.out).mono ?_
          rintro e w2 ⟨rfl, rfl⟩
          go_wp2_with fail
          refine (args_is _ _ m (by omega) HA.out).mono ?_
          rintro e w2 ⟨rfl, rfl⟩
          go_wp2_with fail
          obtain ⟨ev, hev⟩ : ∃ ev, ev = entAt rl := ⟨_, rfl⟩
          have hx : (rb.extract 0 (2 + m)).size = 2 + m := by rw [Lib.size_eq, Lib.extract_data, List.length_take, List.drop_zero, ← Lib.size_eq]; omega
          have hen : entOf (rb.extract 0 (2 + m)).data.toList = ev := by
            rw [Lib.extract_data, List.drop_zero, Nat.sub_zero, HRB.out, HMn.out, hev]
            exact entOf_take rl (by rw [← HRB.out, ← Lib.size_eq]; omega)
          have hent := entry_any wr (rb.extract 0 (2 + m)) (by omega) (by omega)
          rw [hen] at hent
          obtain ⟨x0, h0⟩ : ∃ x, x = u ev.g := ⟨_, rfl⟩
          obtain ⟨x1, h1⟩ : ∃ x, x = u ev.d := ⟨_, rfl⟩
          obtain ⟨x2, h2⟩ : ∃ x, x = u ev.a := ⟨_, rfl⟩
          obtain ⟨x3, h3⟩ : ∃ x, x = u ev.b := ⟨_, rfl⟩
          obtain ⟨x4, h4⟩ : ∃ x, x = u ev.c := ⟨_, rfl⟩
          have hcs : ev.cells.toArray = #[.int .u8 x0, .int .u8 x1, .int .u8 x2, .int .u8 x3, .int .u8 x4] := by rw [h0, h1, h2, h3, h4]; rfl
          rw [hcs] at hent
          have hmy : Hid (mayB x0 x1 x2 x3 x4 = ev.may) := Lib.hid (by rw [h0, h1, h2, h3, h4]; rfl)
          have hu1 : 0 ≤ x1 := by rw [h1]; exact (u_lt _).1
          have HCS := Lib.hid hcs
          have HEV := Lib.hid hev
          clear hcs hen hx h0 h1 h2 h3 h4 hev
          refine hent.mono ?_
          rintro e w2 ⟨rfl, hk⟩
          have H2 := Lib.hid (H.out.on hk)
          clear hk hent H
          cases hmb : ev.may
          · rw [hmb] at hmy
            have HB : Hid (Bad rl) := Lib.hid (.inr (.inr (by rw [← HEV.out]; exact hmb)))
            clear hmb
            go_wp2_with fail
            refine (may_is _ _ _ _ _ _ hu1 false hmy.out).mono ?_
            rintro r w3 ⟨rfl, hk⟩
            have H3 := Lib.hid (H2.out.on (((Kp.refl [] _).alloc _).trans hk))
            clear hk
            go_wp2_with fail
            try rw [Exit.noGoto_ret]
            go_ret2
            exact DecP.bad HL.out (H2.out.bad HNE.out HB.out) H3.out.kp
          · rw [hmb] at hmy
            have HM := Lib.hid hmb
            clear hmb
            go_wp2_with fail
            refine (may_is _ _ _ _ _ _ hu1 true hmy.out).mono ?_
            rintro r w3 ⟨rfl, hk⟩
            have b3 := hk.row (by simp) (heap_alloc_new w2 (.cells #[.int .u8 x0, .int .u8 x1, .int .u8 x2, .int .u8 x3, .int .u8 x4] 28))
            have H3 := Lib.hid (H2.out.on (((Kp.refl [] _).alloc _).trans hk))
            have hz3 : w2.heap.size < w3.heap.size := lt_of_block b3
            obtain ⟨c0, c1, c2', c3, c4⟩ := cells5 b3
            clear hk b3 H2
            have k3 : Kp [] w3 (w3.alloc (.cells #[.int .u8 x0, .int .u8 x1, .int .u8 x2, .int .u8 x3, .int .u8 x4] 28)) := (Kp.refl _ _).alloc _
            have H3' := H3.out.on k3
            obtain ⟨g4, cap4, w4, hrun, hE4, hk4⟩ := run_snoc (ty := 24) Try.underlying24 info_entry H3'.row H3'.kp.size w3.heap.size ev _ HCS.out.symm (heap_alloc_new _ _) (by omega)
            have H4 : Hid (DcX 28 w sl (L ++ [ev]) (rl.drop (2 + m)) (.slice (some ⟨g4, 0, none⟩) (n + 1) cap4) (n + 1) w4) := Lib.hid (by
              have hl : 2 + (entAt rl).n ≤ rl.length := by rw [← HMn.out, ← HRB.out, ← Lib.size_eq]; omega
              have := H3'.next hl (by rw [← HEV.out]; exact HM.out) (by rw [← HEV.out]; exact hE4) hk4
              rw [← HMn.out, ← HEV.out] at this
              exact this)
            have hle4 := H4.out.le HL.out
            have HRun := Lib.hid hrun
            have HX : Hid ((rb.extract (2 + m) rb.size).data.toList = rl.drop (2 + m)) := Lib.hid (by
              rw [Lib.extract_data, HRB.out, List.take_of_length_le]
              rw [List.length_drop, ← HRB.out, ← Lib.size_eq]; exact Nat.le_refl _)
            have HXs : Hid ((rb.extract (2 + m) rb.size).size = gk - (2 + m)) := Lib.hid (by
              rw [Lib.size_eq, HX.out, List.length_drop, ← HRB.out, ← Lib.size_eq, HG.out])
            clear hrun hE4 hk4 H3' k3
            go_wp2_with (at_builtin; refine wpList_append_eq rfl (.tmp 38) (.tmp 40) 24 rfl _ _ _ rfl rfl HRun.out ?_)
            clear HRun c0 c1 c2' c3 c4 H3
            go_roundg (gk - (2 + m))
            case measure => have := HG.out; omega
            case rel => exact ⟨_, _, _, _, _, _, rfl, rfl, HXs.out, by omega, hle4, HX, H4⟩

theorem dec_any (w : World) (s : ByteArray) : Calls Try.prog 14 #[.string s] w (DecP 28 w s.data.toList) := by
  by_cases h : 4000 < s.size
  · exact dec_long w s h
  · exact dec_main w s (by omega)

end Go.Proofs.Ytclegfpgmhajmaa
