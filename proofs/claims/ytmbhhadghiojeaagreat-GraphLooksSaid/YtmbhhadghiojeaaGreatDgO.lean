/- The document's own graph: New. Conditions: as each theorem states them. -/
import Derived.Test.YtmbhhadghiojeaaGreatDgN
import Derived.Deep.LoopGhost
import Derived.Deep.CutRange
import Derived.Deep.CutBlock
import Derived.Deep.DeepCutAuto
import Derived.Carry
namespace Go.Proofs.YtmbhhadghiojeaaGreat
set_option linter.unusedVariables false
set_option linter.unusedSimpArgs false
open Go.RowKit

theorem Dn.step {w wr w5 w6 : World} {q g0 nl ns k : Nat} {ao : Option Addr} {tc : Nat} {u v : Nat → Value} (h : Dn w q g0 nl ns k (.slice ao k tc) u v wr) (k5 : Kp [] wr w5) {u' v' : Value} (ru : Rd w5 u' (List.replicate ns 0)) (rv : Rd w5 v' []) (fu : ∀ b ∈ blk u', wr.heap.size ≤ b) (fv : ∀ b ∈ blk v', wr.heap.size ≤ b) {b cap : Nat}
    (hown : w6.ownsRow 0 64 2 (.slice (some ⟨b, 0, none⟩) (k + 1) cap) (k + 1) (prs u v k ++ [u', v'])) (hgr : (w5.alloc (.cells #[u', v'] 64)).grownBy w6 (Value.slice ao k tc).ownBlock) (hb : (Value.slice ao k tc).ownBlock = some b ∨ wr.heap.size ≤ b) :
    Dn w q g0 nl ns (k + 1) (.slice (some ⟨b, 0, none⟩) (k + 1) cap) (up u k u') (up v k v') (w6.setCell ⟨q, 0, none⟩ (.slice (some ⟨b, 0, none⟩) (k + 1) cap)) := by
  have ka : Kp [] w5 (w5.alloc (.cells #[u', v'] 64)) := (Kp.refl _ _).alloc _
  refine h.more (k5.trans ka) (ru.keep0 ka) (rv.keep0 ka) fu fv hown (grown_kp hgr) ?_
  rcases hb with h | h
  · left
    cases ao <;> simp [Value.ownBlock] at h
    rw [← h]
    exact List.mem_singleton.2 rfl
  · exact .inr h

set_option maxRecDepth 100000 in
set_option maxHeartbeats 4000000 in
theorem d_New (w : World) (nt ns nl : Nat) (h1 : 1 ≤ nt) (h2 : nt ≤ 64) (h3 : 1 ≤ ns) (h4 : ns ≤ 8) (h5 : nl ≤ 8) : Calls Tryz.prog 8 #[.int .i64 nt, .int .i64 ns, .int .i64 nl] w fun e w' => ∃ q, e = .returned (.pointer (some ⟨q, 0, none⟩)) ∧ Dx (fun b => w.heap.size ≤ b ∧ b < w'.heap.size) w' q (fresh nt ns nl) ∧ Kp [] w w' := by
  have hmk := make_ints nl (by omega)
  have HNEW : Hid (∀ w', Calls Tryz.prog 24 #[.int .i64 ns] w' (RAns w' (List.replicate ns 0) [])) := Lib.hid fun w' => rnew_any w' ns h3 h4
  obtain ⟨iO, hiO, hz0, hz1, hz2⟩ := info_parts roots_info
  have ka : Kp [] w (w.alloc (.cells (ints (List.replicate nl 0)).toArray 3)) := (Kp.refl _ _).alloc _
  have hg0 := heap_alloc_new w (.cells (ints (List.replicate nl 0)).toArray 3)
  have hq0 := heap_alloc_new (w.alloc (.cells (ints (List.replicate nl 0)).toArray 3)) (.cells #[.slice none 0 0, .slice (some ⟨w.heap.size, 0, none⟩) nl nl, .slice none 0 0] 62)
  have kb : Kp [] (w.alloc (.cells (ints (List.replicate nl 0)).toArray 3)) ((w.alloc (.cells (ints (List.replicate nl 0)).toArray 3)).alloc (.cells #[.slice none 0 0, .slice (some ⟨w.heap.size, 0, none⟩) nl nl, .slice none 0 0] 62)) := (Kp.refl _ _).alloc _
  rw [World.size_alloc] at hq0
  have H0 : Hid (Dn w (w.heap.size + 1) w.heap.size nl ns 0 (.slice none 0 0) (fun _ => undef) (fun _ => undef) ((w.alloc (.cells (ints (List.replicate nl 0)).toArray 3)).alloc (.cells #[.slice none 0 0, .slice (some ⟨w.heap.size, 0, none⟩) nl nl, .slice none 0 0] 62))) :=
    Lib.hid ⟨hq0, World.ownsRow_nil _ _ _ _, fun i hi => by omega, fun i hi => by omega, ro_ints (kb.row (by simp) hg0), ⟨by omega, Nat.le_refl _, fun b hb => by simp [blk_nil] at hb⟩, ka.trans kb⟩
  clear ka hg0 hq0 kb h3
  go_enter Tryz.func8, Tryz.ntmps8
  go_wp2_with fail
  generalize w.heap.size + 1 = q at H0 ⊢
  generalize w.heap.size = g0 at H0 ⊢
  generalize (w.alloc (.cells (ints (List.replicate nl 0)).toArray 3)).alloc (.cells #[.slice none 0 0, .slice (some ⟨g0, 0, none⟩) nl nl, .slice none 0 0] 62) = w2 at H0 ⊢
  go_loopg [8] nt (fun gg jv wr => ∃ (k : Nat) (ao : Option Addr) (tc : Nat) (u v : Nat → Value), k + gg = nt ∧ jv = .int .i64 (k : Int) ∧ Hid (Dn w q g0 nl ns k (.slice ao k tc) u v wr))
  case atStart => exact ⟨0, none, 0, _, _, by omega, rfl, H0⟩
  case round =>
    clear H0
    obtain ⟨k, ao, tc, u, v, hkg, rfl, H⟩ := hrel
    by_cases hk : k < nt
    · have c0 : wr.cell? ⟨q, 0, none⟩ = some (.slice ao k tc) := by rw [cell_of_row H.out.hp]; rfl
      have f0 := free_of_row H.out.hp 0
      go_wp2_with fail
      go_region_law (first
        | (refine step_append_lies _ rfl (.tmp 22) (.tmp 25) 59 rfl 0 64 iO (.agg #[.slice none 0 0, .slice none 0 0]) 2 48 Tryz.underlying59 hiO hz0 hz1 hz2 rfl (by decide) (.slice ao k tc) k (prs u v k) rfl (HO.out _ ((Kp.refl _ _).alloc _)) _ 1 1 _ rfl rfl (World.news_of_block (heap_alloc_new _ _)) (by simp [Value.oneCell']) (by decide) (by unfold maxLen; omega) (by omega) (Nat.zero_le _) _ rfl ?_
           intro g6 cap6 w6 hown6 hgr6 hg6 hlt6
           obtain ⟨cs6, hq6, hcs6⟩ := HQ.out w6 hgr6
           have e6 : w6.cell? ⟨q, 0, none⟩ = some (.slice ao k tc) := by rw [cell_of_row hq6]; exact hcs6
           have g06 := free_of_row hq6 0
           have H6 := Lib.hid (And.intro hown6 (And.intro hgr6 hg6))
           clear hown6 hgr6 hg6 hq6 hcs6)
        | (go_simp
           go_at_call 24
           refine (HNEW.out _).mono ?_
           rintro e w5 ⟨u', v', rfl, ru, rv, k5, fu, fv⟩
           have k5' := k5.drew_l
           have D5 := H.out.on k5'
           have HO : Hid (∀ w', Kp [] w5 w' → w'.ownsRow 0 64 2 (.slice ao k tc) k (prs u v k)) := Lib.hid fun w' kk => (D5.on kk).ht
           have HQ : Hid (∀ w6, (w5.alloc (.cells #[u', v'] 64)).grownBy w6 (Value.slice ao k tc).ownBlock → ∃ cs, w6.heap[q]? = some (.cells cs 62 (0, 0)) ∧ cs[0]? = some (.slice ao k tc)) := Lib.hid fun w6 hg => by
             have D6 := D5.on (((Kp.refl [] w5).alloc (.cells #[u', v'] 64)))
             refine ⟨_, (grown_kp hg).row (fun e => ?_) D6.hp, rfl⟩
             obtain ⟨cur, hc⟩ := D6.ht.block q e
             exact ne_types hc D6.hp (by decide) rfl
           have R5 := Lib.hid (And.intro ru (And.intro rv (And.intro fu (And.intro fv k5'))))
           have c5 : w5.cell? ⟨q, 0, none⟩ = some (.slice ao k tc) := by rw [cell_of_row D5.hp]; rfl
           have c6 := ((Kp.refl [] w5).alloc (.cells #[u', v'] 64)).cell (by simp) c5
           obtain ⟨ao5, d5, hu5, -⟩ := ru.form
           obtain ⟨lo5, e5, hv5, -⟩ := rv.form
           generalize (List.replicate ns (0 : Int)).length = n5 at hu5
           generalize ([] : List Int).length = m5 at hv5
           subst hu5 hv5
           clear ru rv fu fv k5 k5' D5))
      all_goals go_wp2_with fail
      all_goals
        have HN := Lib.hid (H.out.step R5.out.2.2.2.2 R5.out.1 R5.out.2.1 R5.out.2.2.1 R5.out.2.2.2.1 H6.out.1 H6.out.2.1 (H6.out.2.2.imp id fun e => by rw [e]; exact (R5.out.2.2.2.2.alloc _).size))
        clear H R5 H6 HO HQ
        go_roundg (nt - (k + 1))
        case measure => omega
        case rel => exact ⟨k + 1, _, _, _, _, by omega, by go_num, HN⟩
    · obtain rfl : k = nt := by omega
      have HD := Lib.hid (And.intro (H.out.dx h1 h4) H.out.kp)
      clear H hkg
      go_wp2_with fail
      go_ret
      exact ⟨_, rfl, HD.out.1, HD.out.2⟩

end Go.Proofs.YtmbhhadghiojeaaGreat
