/- Layer 10's New: what it throws, and what it makes. Conditions: as each theorem states them. -/
import Derived.Test.YtmbhhadghiojeaaGreatGrF
import Derived.Deep.AppendLies
import Derived.Carry
namespace Go.Proofs.YtmbhhadghiojeaaGreat
set_option linter.unusedVariables false
set_option linter.unusedSimpArgs false
open Go.RowKit Go.Maps

theorem ptr_info : (Tryz.prog.info? 55).map (fun i => (i.zero, i.size, i.bytes)) = some (some (.pointer none), 1, 8) := by kernel_rfl
def ptrs (us : List Nat) : List Value := us.map fun b => Value.pointer (some ⟨b, 0, none⟩)
theorem ptrs_get (us : List Nat) (i : Nat) (h : i < us.length) : (ptrs us)[i]? = some (.pointer (some ⟨us.getD i 0, 0, none⟩)) := by simp [ptrs, List.getD, h]
/-- 'append(v, q)' onto a row of the call's own, its run. -/
theorem run_append_ptr {B : Nat} {w : World} (v : Value) (us : List Nat) (q : Nat) (ad : Addr) (hown : w.ownsRow B 55 1 v us.length (ptrs us)) (hl : us.length ≤ 100000) (hk0 : B ≤ w.heap.size)
    (hz : w.cell? (ad.add 0) = some (.pointer (some ⟨q, 0, none⟩))) (ty : TypeId) :
    ∃ g cap w', (Builtin.append_ #[52, 52] ty #[v, .slice (some ad) 1 1]).run Tryz.prog w = .ok (.slice (some ⟨g, 0, none⟩) (us.length + 1) cap) w' ∧
      w'.ownsRow B 55 1 (.slice (some ⟨g, 0, none⟩) (us.length + 1) cap) (us ++ [q]).length (ptrs (us ++ [q])) ∧ Kp (blk v) w w' := by
  obtain ⟨i, hi, hz0, hz1, hz2⟩ := info_parts ptr_info
  obtain ⟨g, cap, w', hr, h2, h3, h4, h5⟩ := run_append_lies (P := Tryz.prog) w 52 ty B 55 i (.pointer none) 1 8 Tryz.underlying52 hi hz0 hz1 hz2 rfl (by decide) v us.length (ptrs us) hown ad 1 1 [.pointer (some ⟨q, 0, none⟩)] rfl
    (fun j u hu => by
      have hj : j = 0 := by
        have := (List.getElem?_eq_some_iff.1 hu).1
        simpa using this
      subst hj
      simp at hu
      subst hu
      exact hz) (by simp [Value.oneCell']) (by decide) (by unfold maxLen; omega) (by omega) hk0 _ rfl
  refine ⟨g, cap, w', hr, ?_, kp_of_row h3⟩
  rw [show (us ++ [q]).length = us.length + 1 from by simp, show ptrs (us ++ [q]) = ptrs us ++ [.pointer (some ⟨q, 0, none⟩)] from by simp [ptrs]]
  exact h2

/-- New, under way: k threads' roots are made. -/
structure Nw (w0 : World) (p B g0 nl ns : Nat) (v : Value) (us : List Nat) (wr : World) : Prop where
  hp : wr.heap[p]? = some (.cells #[v, .slice (some ⟨g0, 0, none⟩) nl nl, .map (some B)] 54 (0, 0))
  own : wr.ownsRow w0.heap.size 55 1 v us.length (ptrs us)
  hq : ∀ i, i < us.length → Rt wr (us.getD i 0) (List.replicate ns 0) []
  nd : ∀ i j, i < us.length → j < us.length → us.getD i 0 = us.getD j 0 → i = j
  hg : Ro 3 .i64 wr g0 (List.replicate nl 0)
  hm : Mo wr B 0 (fun _ => zobj)
  kp : Kp [] w0 wr
  lo : w0.heap.size ≤ p ∧ w0.heap.size ≤ B ∧ w0.heap.size ≤ g0 ∧ ∀ i, i < us.length → w0.heap.size ≤ us.getD i 0

section
variable {w0 wr w2 : World} {p B g0 nl ns : Nat} {v : Value} {us : List Nat}
theorem Nw.blk (h : Nw w0 p B g0 nl ns v us wr) : ∀ g ∈ blk v, w0.heap.size ≤ g ∧ ∃ cur, wr.heap[g]? = some (.cells cur 55 (0, 0)) := by
  intro y hy
  rcases h.own.2 with ⟨rfl, _⟩ | ⟨g, c, cur, rfl, hge, hg, _⟩
  · simp [blk_nil] at hy
  · rw [blk_some, List.mem_singleton] at hy
    subst hy
    exact ⟨hge, cur, hg⟩
theorem Nw.form (h : Nw w0 p B g0 nl ns v us wr) : ∃ ao cap, v = .slice ao us.length cap := by
  rcases h.own.2 with ⟨rfl, h0⟩ | ⟨g, c, cur, rfl, _⟩
  · exact ⟨none, 0, by rw [h0]⟩
  · exact ⟨_, c, rfl⟩
theorem Nw.on (h : Nw w0 p B g0 nl ns v us wr) (k : Kp [] wr w2) : Nw w0 p B g0 nl ns v us w2 := by
  refine ⟨k.row (by simp) h.hp, ⟨h.own.1, ?_⟩, fun i hi => (h.hq i hi).keep0 k, h.nd, h.hg.keep0 k, h.hm.keep k (by simp), h.kp.trans k, h.lo⟩
  rcases h.own.2 with h0 | ⟨g, c, cur, rfl, hge, hg', r⟩
  · exact .inl h0
  · exact .inr ⟨g, c, cur, rfl, hge, k.row (by simp) hg', r⟩
/-- One more. -/
theorem Nw.more (h : Nw w0 p B g0 nl ns v us wr) {q : Nat} (hR : Rt wr q (List.replicate ns 0) []) (hq0 : w0.heap.size ≤ q) (hqn : ∀ i, i < us.length → us.getD i 0 ≠ q) {v' : Value}
    (hown : w2.ownsRow w0.heap.size 55 1 v' (us ++ [q]).length (ptrs (us ++ [q]))) (k : Kp (Go.Proofs.YtmbhhadghiojeaaGreat.blk v) wr w2) :
    w2.heap[p]? = some (.cells #[v, .slice (some ⟨g0, 0, none⟩) nl nl, .map (some B)] 54 (0, 0)) ∧ Nw w0 p B g0 nl ns v' (us ++ [q]) (w2.setCell ⟨p, 0, none⟩ v') := by
  have hpn : p ∉ Go.Proofs.YtmbhhadghiojeaaGreat.blk v := fun e => by
    obtain ⟨_, cur, hc⟩ := h.blk p e
    exact ne_types hc h.hp (by decide) rfl
  have hp2 := k.row hpn h.hp
  have k1 : Kp [p] w2 (w2.setCell ⟨p, 0, none⟩ v') := (Kp.refl _ _).setCell (.inl (by simp)) _
  have rn : ∀ {b A L}, Rt wr b A L → b ∉ Go.Proofs.YtmbhhadghiojeaaGreat.blk v := fun hb e => by
    obtain ⟨cs, hc⟩ := hb.row
    obtain ⟨_, cur, hc2⟩ := h.blk _ e
    exact ne_types hc hc2 (by decide) rfl
  have rp : ∀ {b A L}, Rt wr b A L → b ∉ [p] := fun hb => by
    obtain ⟨cs, hc⟩ := hb.row
    simpa using ne_types hc h.hp (by decide)
  have gn : g0 ∉ Go.Proofs.YtmbhhadghiojeaaGreat.blk v := fun e => by
    obtain ⟨_, cur, hc⟩ := h.blk _ e
    exact h.hg.ne hc (by decide) rfl
  have bn : B ∉ Go.Proofs.YtmbhhadghiojeaaGreat.blk v := fun e => by
    obtain ⟨_, cur, hc⟩ := h.blk _ e
    exact h.hm.ne hc rfl
  refine ⟨hp2, ?_, ⟨hown.1, ?_⟩, fun i hi => ?_, fun i j hi hj e => ?_, (h.hg.keep k gn).keep k1 (by simpa using h.hg.ne h.hp (by decide)), (h.hm.keep k bn).keep k1 (by simpa using h.hm.ne h.hp), ?_, h.lo.1, h.lo.2.1, h.lo.2.2.1, fun i hi => ?_⟩
  · rw [heap_setCell_same _ _ _ _ _ _ hp2]; rfl
  · rcases hown.2 with ⟨rfl, h0⟩ | ⟨g, c, cur, rfl, hge, hg', r⟩
    · simp at h0
    · exact .inr ⟨g, c, cur, rfl, hge, k1.row (by simpa using ne_types hg' hp2 (by decide)) hg', r⟩
  · by_cases e : i < us.length
    · rw [show (us ++ [q]).getD i 0 = us.getD i 0 from by simp [List.getD, List.getElem?_append_left e]]
      exact ((h.hq i e).keep k (rn (h.hq i e))).keep k1 (rp (h.hq i e))
    · have : i = us.length := by simp at hi; omega
      rw [show (us ++ [q]).getD i 0 = q from by subst this; simp [List.getD]]
      exact (hR.keep k (rn hR)).keep k1 (rp hR)
  · have g : ∀ i, i < (us ++ [q]).length → (i < us.length ∧ (us ++ [q]).getD i 0 = us.getD i 0) ∨ (i = us.length ∧ (us ++ [q]).getD i 0 = q) := fun i hi => by
      by_cases e : i < us.length
      · exact .inl ⟨e, by simp [List.getD, List.getElem?_append_left e]⟩
      · have : i = us.length := by simp at hi; omega
        exact .inr ⟨this, by subst this; simp [List.getD]⟩
    rcases g i hi with ⟨a, ea⟩ | ⟨a, ea⟩ <;> rcases g j hj with ⟨b, eb⟩ | ⟨b, eb⟩ <;> rw [ea, eb] at e
    · exact h.nd i j a b e
    · exact absurd e (hqn i a)
    · exact absurd e.symm (hqn j b)
    · omega
  · have k2 : Kp (p :: Go.Proofs.YtmbhhadghiojeaaGreat.blk v) wr (w2.setCell ⟨p, 0, none⟩ v') := (k.mono (by simp +contextual)).trans (k1.mono (by simp))
    exact ((h.kp.mono (by simp)).trans k2).mono fun y hy hlt => by
      rw [List.mem_cons] at hy
      rcases hy with rfl | hy
      · have := h.lo.1; omega
      · have := (h.blk y hy).1; omega
  · by_cases e : i < us.length
    · rw [show (us ++ [q]).getD i 0 = us.getD i 0 from by simp [List.getD, List.getElem?_append_left e]]
      exact h.lo.2.2.2 i e
    · have : i = us.length := by simp at hi; omega
      rw [show (us ++ [q]).getD i 0 = q from by subst this; simp [List.getD]]
      exact hq0
end

set_option maxRecDepth 100000 in
theorem new1_bad (w : World) (bh bl bk bn : Nat) (h l k : Int) (hh : w.cell? ⟨bh, 0, none⟩ = some (.int .i64 h)) (hl : w.cell? ⟨bl, 0, none⟩ = some (.int .i64 l)) (hb : h < 1 ∨ 64 < h ∨ l < 0 ∨ 8 < l) :
    Calls Tryz.prog 20 #[.pointer (some ⟨bh, 0, none⟩), .pointer (some ⟨bl, 0, none⟩), .pointer (some ⟨bk, 0, none⟩), .pointer (some ⟨bn, 0, none⟩)] w (Threw w 2) := by
  have hn := need_no w 2
  have hy := need_ok w 2
  by_cases i1 : 1 ≤ h
  · by_cases i2 : h ≤ 64
    · by_cases i3 : 0 ≤ l
      · have i4 : decide (l ≤ 8) = false := by simp; omega
        clear hb
        go_enter Tryz.func20, Tryz.ntmps20
        go_wp2_with (first | ((with_reducible refine hy.mono ?_); rintro e w2 ⟨rfl, rfl⟩) | ((with_reducible refine hn.mono ?_); rintro e w2 ⟨rfl, rfl⟩))
        exact ⟨rfl, rfl, Kp.refl _ _⟩
      · clear hb
        go_enter Tryz.func20, Tryz.ntmps20
        go_wp2_with (first | ((with_reducible refine hy.mono ?_); rintro e w2 ⟨rfl, rfl⟩) | ((with_reducible refine hn.mono ?_); rintro e w2 ⟨rfl, rfl⟩))
        exact ⟨rfl, rfl, Kp.refl _ _⟩
    · have i4 : decide (h ≤ 64) = false := by simp; omega
      clear hb
      go_enter Tryz.func20, Tryz.ntmps20
      go_wp2_with ((with_reducible refine hn.mono ?_); rintro e w2 ⟨rfl, rfl⟩)
      exact ⟨rfl, rfl, Kp.refl _ _⟩
  · clear hb
    go_enter Tryz.func20, Tryz.ntmps20
    go_wp2_with ((with_reducible refine hn.mono ?_); rintro e w2 ⟨rfl, rfl⟩)
    exact ⟨rfl, rfl, Kp.refl _ _⟩

theorem nw_start (w : World) (nl ns : Nat) : Nw w (w.heap.size + 1 + 1) (w.heap.size + 1) w.heap.size nl ns (.slice none 0 0) []
    (((w.alloc (.cells (ints (List.replicate nl 0)).toArray 3)).alloc (.map #[] 0)).alloc (.cells #[.slice none 0 0, .slice (some ⟨w.heap.size, 0, none⟩) nl nl, .map (some (w.heap.size + 1))] 54)) := by
  have k1 : Kp [] w (w.alloc (.cells (ints (List.replicate nl 0)).toArray 3)) := (Kp.refl _ _).alloc _
  have k2 := k1.alloc (.map #[] 0)
  have e1 : (w.alloc (.cells (ints (List.replicate nl 0)).toArray 3)).heap.size = w.heap.size + 1 := World.size_alloc _ _
  have e2 : ((w.alloc (.cells (ints (List.replicate nl 0)).toArray 3)).alloc (.map #[] 0)).heap.size = w.heap.size + 1 + 1 := by rw [World.size_alloc, e1]
  have h3 := heap_alloc_new ((w.alloc (.cells (ints (List.replicate nl 0)).toArray 3)).alloc (.map #[] 0)) (.cells #[.slice none 0 0, .slice (some ⟨w.heap.size, 0, none⟩) nl nl, .map (some (w.heap.size + 1))] 54)
  rw [e2] at h3
  have hm := Mo.made (w.alloc (.cells (ints (List.replicate nl 0)).toArray 3)) (fun _ => zobj)
  rw [e1] at hm
  refine ⟨h3, World.ownsRow_nil _ _ _ _, fun i hi => by simp at hi, fun i j hi => by simp at hi, ro_ints ?_, hm.keep ((Kp.refl [] _).alloc _) (by simp), k2.alloc _, by omega, by omega, by omega, fun i hi => by simp at hi⟩
  rw [Below.heap_alloc _ _ _ (by omega), Below.heap_alloc _ _ _ (by omega)]
  exact heap_alloc_new w _

/-- What New has made. -/
def NwMade (w : World) (nt nl ns bn : Nat) (e : Ending) (w' : World) : Prop :=
  e = .returned (.tuple #[]) ∧ ∃ w2 B g0 v us, us.length = nt ∧ Nw w (w.heap.size + 1 + 1) B g0 nl ns v us w2 ∧ w' = w2.setCell ⟨bn, 0, none⟩ (.pointer (some ⟨w.heap.size + 1 + 1, 0, none⟩))

set_option maxRecDepth 100000 in
theorem new1_ok (w : World) (bh bl bk bn nt nl ns : Nat) (hh : w.cell? ⟨bh, 0, none⟩ = some (.int .i64 nt)) (hl : w.cell? ⟨bl, 0, none⟩ = some (.int .i64 nl)) (hk : w.cell? ⟨bk, 0, none⟩ = some (.int .i64 ns))
    (u : Value) (hbn : w.heap[bn]? = some (.cells #[u] 24 (0, 0))) (h1 : 1 ≤ nt) (h2 : nt ≤ 64) (h3 : nl ≤ 8) (h4 : 1 ≤ ns) (h5 : ns ≤ 8) :
    Calls Tryz.prog 20 #[.pointer (some ⟨bh, 0, none⟩), .pointer (some ⟨bl, 0, none⟩), .pointer (some ⟨bk, 0, none⟩), .pointer (some ⟨bn, 0, none⟩)] w (NwMade w nt nl ns bn) := by
  have hy := need_ok w 2
  have hmk := make_ints nl (by omega)
  have hmm := @run_makeMap Tryz.prog
  have HK := Lib.hid hk
  have HB := Lib.hid hbn
  have hh3 := (nw_start w nl ns).kp.cell (by simp) hh
  clear hk hbn
  go_enter Tryz.func20, Tryz.ntmps20
  have hd1 : decide ((nt : Int) ≤ 64) = true := by simp; omega
  have hd2 : decide ((nl : Int) ≤ 8) = true := by simp; omega
  go_wp2_with ((with_reducible refine hy.mono ?_); rintro e w2 ⟨rfl, rfl⟩)
  clear hd1 hd2 hy hmk hmm hh hl hh3
  have HN0 := Lib.hid (nw_start w nl ns)
  go_loopw [27] (fun i wr => ∃ (k : Nat) (v : Value) (us : List Nat), us.length = k ∧ k ≤ nt ∧ i = .int .i64 k ∧ Hid (Nw w (w.heap.size + 1 + 1) (w.heap.size + 1) w.heap.size nl ns v us wr)) (fun i wr => nt - (intOf i).toNat)
  case atStart => exact ⟨0, _, [], rfl, Nat.zero_le _, rfl, HN0⟩
  case round =>
    obtain ⟨k, v, us, hu, hkn, rfl, HN⟩ := hrel
    clear HN0
    by_cases hlt : k < nt
    · obtain ⟨ao, cap, hv⟩ := HN.out.form
      have hbk := HN.out.kp.cell (by simp) HK.out
      have hnew := new_good wr ns h4 h5
      clear hv
      go_wp2_with fail
      refine hnew.mono ?_
      rintro e w1 ⟨rfl, hR, hk1⟩
      have HN1 := Lib.hid (HN.out.on hk1)
      have HR := Lib.hid hR
      have HK1 := Lib.hid hk1
      have hm := must_ok w1
      clear hbk hnew hR hk1
      have hp0 : w1.cell? ⟨w.heap.size + 1 + 1, 0, none⟩ = some v := by rw [cell_of_row HN1.out.hp]; rfl
      have ka := (Kp.refl [] w1).alloc (.cells #[.pointer (some ⟨wr.heap.size, 0, none⟩)] 55)
      have hN2 := HN1.out.on ka
      have hR2 := HR.out.keep0 ka
      obtain ⟨g, cap2, w5, hrun, hown5, hk5⟩ := run_append_ptr v us wr.heap.size ⟨w1.heap.size, 0, none⟩ hN2.own (by omega) hN2.kp.size (by
        rw [Addr.add_lit, cell_of_row (heap_alloc_new w1 _)]; rfl) 52
      obtain ⟨hp5, hN5⟩ := hN2.more hR2 (HN.out.kp.size) (fun i hi e => by have := (HN.out.hq i hi).lt; omega) hown5 hk5
      have hc5 := cell_of_row hp5 0
      have hf5 := free_of_row hp5 0
      have HN5 := Lib.hid hN5
      rw [hu] at hrun HN5
      clear ka hN2 hR2 hown5 hk5 hp5 hN5
      simp only [List.getElem?_toArray, List.getElem?_cons_zero] at hc5
      go_wp2_with (first
        | ((with_reducible refine hm.mono ?_); rintro e w2 ⟨rfl, rfl⟩)
        | (at_builtin; refine wpList_append_eq rfl _ _ 52 rfl _ _ _ rfl rfl hrun ?_))
      go_roundw
      case rel => exact ⟨k + 1, _, us ++ [wr.heap.size], by simp [hu], by omega, by go_num, HN5⟩
      case measure => simp only [intOf]; omega
    · have hb := HN.out.kp.row (by simp) HB.out
      have hc := cell_of_row hb 0
      have hf := free_of_row hb 0
      clear hb
      go_wp2
      go_end0
      exact ⟨rfl, wr, _, _, v, us, by omega, HN.out, rfl⟩

set_option maxRecDepth 100000 in
theorem new1_slots (w : World) (bh bl bk bn nt nl : Nat) (k : Int) (hh : w.cell? ⟨bh, 0, none⟩ = some (.int .i64 nt)) (hl : w.cell? ⟨bl, 0, none⟩ = some (.int .i64 nl)) (hk : w.cell? ⟨bk, 0, none⟩ = some (.int .i64 k))
    (h1 : 1 ≤ nt) (h2 : nt ≤ 64) (h3 : nl ≤ 8) (hb : k < 1 ∨ 8 < k) :
    Calls Tryz.prog 20 #[.pointer (some ⟨bh, 0, none⟩), .pointer (some ⟨bl, 0, none⟩), .pointer (some ⟨bk, 0, none⟩), .pointer (some ⟨bn, 0, none⟩)] w (Threw w 2) := by
  have hy := need_ok w 2
  have hmk := make_ints nl (by omega)
  have hmm := @run_makeMap Tryz.prog
  have HK := Lib.hid hk
  have HB := Lib.hid hb
  have hh3 := (nw_start w nl 1).kp.cell (by simp) hh
  clear hk hb
  go_enter Tryz.func20, Tryz.ntmps20
  have hd1 : decide ((nt : Int) ≤ 64) = true := by simp; omega
  have hd2 : decide ((nl : Int) ≤ 8) = true := by simp; omega
  go_wp2_with ((with_reducible refine hy.mono ?_); rintro e w2 ⟨rfl, rfl⟩)
  clear hd1 hd2 hy hmk hmm hh hl hh3
  have HN0 := Lib.hid (nw_start w nl 1).kp
  go_loopw [27] (fun i wr => i = .int .i64 0 ∧ Hid (Kp [] w wr)) (fun i wr => 0)
  case atStart => exact ⟨rfl, HN0⟩
  case round =>
    obtain ⟨rfl, HN⟩ := hrel
    clear HN0
    have hlt : 0 < nt := by omega
    have hbk := HN.out.cell (by simp) HK.out
    have hnew := new_bad wr k HB.out
    have hm := must_no wr 2 (by decide)
    go_wp2_with (first
      | ((with_reducible refine hnew.mono ?_); rintro e w2 ⟨rfl, rfl⟩)
      | ((with_reducible refine hm.mono ?_); rintro e w2 ⟨rfl, rfl⟩))
    exact ⟨rfl, rfl, HN.out⟩

end Go.Proofs.YtmbhhadghiojeaaGreat
