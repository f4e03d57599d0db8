/- All: what 'there' gives one by one, gathered into a row of the call's own. Conditions: as each theorem states them. -/
import Derived.Test.YtmbhhadghiojeaaGreatRt
import Derived.RangeFuncNested
import Derived.RangeFuncBound
import Derived.RangeFuncCalls
import Derived.RangeFuncLeaves
import Derived.Shelf.Abstract
import Derived.Shelf.RegionOpen
import Derived.OwnWalkIn
import Derived.TacticsInMore
import Derived.LoopNIn
import Derived.LoopIn
namespace Go.Proofs.YtmbhhadghiojeaaGreat
set_option linter.unusedVariables false
set_option linter.unusedSimpArgs false
open Go.RowKit Go.Shelf
attribute [local go_sem] Oper.semAt_some

/-- What is not 0. -/
def nz (xs : List Int) : List Int := xs.filter fun x => x != 0
theorem nz_nil : nz [] = [] := rfl
theorem nz_app (xs ys : List Int) : nz (xs ++ ys) = nz xs ++ nz ys := List.filter_append ..
theorem nz_le (xs : List Int) : (nz xs).length ≤ xs.length := List.length_filter_le _ _
theorem take_at {X : List Int} {i : Nat} (h : i < X.length) : X.take (i + 1) = X.take i ++ [X.getD i 0] := by
  rw [List.take_succ_eq_append_getElem h]; simp [List.getD, h]
theorem nz_zero {X : List Int} {i : Nat} (h : i < X.length) (hz : X.getD i 0 = 0) : nz (X.take (i + 1)) = nz (X.take i) := by
  rw [take_at h, nz_app, hz]; simp [nz]
theorem nz_some {X : List Int} {i : Nat} {x : Int} (h : i < X.length) (hx : X.getD i 0 = x) (hz : (x == 0) = false) : nz (X.take (i + 1)) = nz (X.take i) ++ [x] := by
  have hb : (x != 0) = true := by simpa using hz
  rw [take_at h, nz_app, hx]; simp [nz, hb]
theorem nz_rest {X : List Int} {i : Nat} {x : Int} (h : i < X.length) (hx : X.getD i 0 = x) (hz : (x == 0) = false) : nz X = nz (X.take i) ++ x :: nz (X.drop (i + 1)) := by
  conv => lhs; rw [← List.take_append_drop (i + 1) X, nz_app, nz_some h hx hz]
  simp
theorem getD_left {A L : List Int} {i : Nat} (h : i < A.length) : (A ++ L).getD i 0 = A.getD i 0 := by simp [List.getD, List.getElem?_append_left h]
theorem getD_right (A L : List Int) (i : Nat) : (A ++ L).getD (A.length + i) 0 = L.getD i 0 := by
  simp only [List.getD]
  rw [List.getElem?_append_right (Nat.le_add_right _ _), Nat.add_sub_cancel_left]

theorem size_int (W : World) : (sizeOf 3).run Tryz.prog W = .ok 1 W := by
  obtain ⟨i, hi, _, hz1, _⟩ := info_parts int_info
  simp [sizeOf, typeInfo, hi, hz1]
theorem slice8 (W : World) (p na : Nat) (h : na ≤ 8) : (Instr.sliceAt 94 (.pointer (some ⟨p, 0, none⟩)) none (some (.int .i64 na)) none).run Tryz.prog W = .ok (.slice (some ⟨p, 0, none⟩) na 8) W := by
  have e : Tryz.prog.arrayLen 94 = 8 := by kernel_rfl
  rw [run_sliceAt_array_h (P := Tryz.prog) W 94 ⟨p, 0, none⟩ (by kernel_rfl) .i64 na (by omega) (by rw [e]; omega), show Tryz.prog.elem 94 = 3 from by kernel_rfl, size_int, e]
  simp [Result.andThen, slicedAt, Addr.add_lit]
theorem slice16 (W : World) (p na : Nat) (h : na ≤ 16) : (Instr.sliceAt 95 (.pointer (some ⟨p, 9, none⟩)) none (some (.int .i64 na)) none).run Tryz.prog W = .ok (.slice (some ⟨p, 9, none⟩) na 16) W := by
  have e : Tryz.prog.arrayLen 95 = 16 := by kernel_rfl
  rw [run_sliceAt_array_h (P := Tryz.prog) W 95 ⟨p, 9, none⟩ (by kernel_rfl) .i64 na (by omega) (by rw [e]; omega), show Tryz.prog.elem 95 = 3 from by kernel_rfl, size_int, e]
  simp [Result.andThen, slicedAt, Addr.add_lit]
theorem slice_info : (Tryz.prog.info? 37).map (fun i => (i.zero, i.size, i.bytes)) = some (some (.slice none 0 0), 1, 24) := by kernel_rfl
theorem idx2 (w : World) (ao bo : Option Addr) (n m c d : Nat) : (Instr.index 116 (.agg #[.slice ao n c, .slice bo m d]) (.int .i64 0)).run Tryz.prog w = .ok (.slice ao n c) w ∧ (Instr.index 116 (.agg #[.slice ao n c, .slice bo m d]) (.int .i64 1)).run Tryz.prog w = .ok (.slice bo m d) w := by
  obtain ⟨i, hi, _, hz1, _⟩ := info_parts slice_info
  constructor <;> simp [Instr.index, run_underlying Tryz.underlying116, asIntOf, sizeOf, typeInfo, hi, hz1, part, Result.andThen]

/-- What is asked of the function that is ranged over: that it gives the numbers zs, in order, whatever is kept between two of them. -/
def Gives (n : Nat) (recv : Value) (zs : List Int) (Hyp : World → Prop) : Prop :=
  ∀ (l : Nat) (J : List Int → World → Prop) (W : World), (∀ ys W, J ys W → Hyp W) → (∀ ys W, J ys W → J ys W.drew) →
    (∀ ys x xs W, zs = ys ++ x :: xs → J ys W → YieldAt Fence.wide (n - 1) Tryz.prog l #[.int .i64 x] W fun e W' => e = .returned (.bool true) ∧ J (ys ++ [x]) W') →
    J [] W → CallsIn Fence.wide n Tryz.prog 83 #[recv, .func (.yield l) #[] #[]] W fun e W' => (∃ v, e = .returned v) ∧ J zs W'

theorem there_nil (n : Nat) : Gives n (.pointer none) [] (fun _ => True) := by
  intro l J W hJ hD hY h0
  refine callsIn_of_wp Tryz.func83 rfl trivial ?_ rfl
  simp only [Tryz.ntmps83, List.size_toArray, List.length_cons, List.length_nil, Nat.reduceAdd, Nat.reduceSub, Array.replicate_succ, Array.replicate_zero, List.push_toArray, List.append_toArray, List.nil_append, List.cons_append]
  gi_wp2
  refine bodyPost_ret (results_none rfl _ _ _) rfl ?_
  exact ⟨⟨_, rfl⟩, h0⟩

set_option maxRecDepth 100000 in
theorem there_any (n : Nat) (hn : 1 ≤ n) (p : Nat) (A L : List Int) : Gives n (.pointer (some ⟨p, 0, none⟩)) (nz (A ++ L)) (fun W => Rt W p A L) := by
  intro l J W hJ hD hY h0
  have hR0 := hJ _ _ h0
  have c8 := (hJ _ _ (hD _ _ h0)).c8
  have c25 := (hJ _ _ (hD _ _ h0)).c25
  have hla := hR0.la
  have hll := hR0.ll
  have HD : Hid (J [] W.drew) := Lib.hid (hD _ _ h0)
  have HJ := Lib.hid hJ
  have HY := Lib.hid hY
  clear hR0 hJ hD hY h0
  obtain ⟨na, hna⟩ : ∃ na, na = A.length := ⟨_, rfl⟩
  obtain ⟨nl, hnl⟩ : ∃ nl, nl = L.length := ⟨_, rfl⟩
  have HA := Lib.hid hna
  have HL := Lib.hid hnl
  rw [← hna] at c8 hla
  rw [← hnl] at c25 hll
  clear hna hnl
  obtain ⟨X, hX⟩ : ∃ X, X = A ++ L := ⟨_, rfl⟩
  have HX := Lib.hid hX
  rw [← hX] at HY ⊢
  clear hX
  refine callsIn_of_wp Tryz.func83 rfl trivial ?_ rfl
  simp only [Tryz.ntmps83, List.size_toArray, List.length_cons, List.length_nil, Nat.reduceAdd, Nat.reduceSub, Array.replicate_succ, Array.replicate_zero, List.push_toArray, List.append_toArray, List.nil_append, List.cons_append]
  have hs8 := slice8 W.drew p na hla
  have hs16 := slice16 W.drew p nl hll
  gi_wp2
  gi_region
  clear hs8 hs16 c8 c25
  gi_wp2_with fail
  gi_loopw [27] (fun i wr => (i = .int .i64 0 ∧ Hid (J (nz (X.take (0 + 0))) wr)) ∨ (i = .int .i64 1 ∧ Hid (J (nz (X.take (na + 0))) wr)) ∨ (i = .int .i64 2 ∧ Hid (J (nz (X.take (na + nl))) wr))) (fun i wr => 2 - (intOf i).toNat)
  case atStart => exact .inl ⟨rfl, HD⟩
  case round =>
    clear HD
    rcases hrel with ⟨rfl, hJk⟩ | ⟨rfl, hJk⟩ | ⟨rfl, hJk⟩
    · -- A
      have hix := (idx2 wr (some ⟨p, 0, none⟩) (some ⟨p, 9, none⟩) na nl 8 16).1
      gi_wp2
      gi_loopw [32] (fun i wr => ∃ j : Nat, j ≤ na ∧ i = .int .i64 (j : Int) ∧ Hid (J (nz (X.take (0 + j))) wr)) (fun i wr => na - (intOf i).toNat)
      case atStart => exact ⟨0, Nat.zero_le _, rfl, hJk⟩
      case round =>
        clear hJk hix
        obtain ⟨j, hj, rfl, hJj⟩ := hrel
        by_cases hjn : j < na
        · have hc := (HJ.out _ _ hJj.out).cA (i := j) (by rw [← HA.out]; exact hjn)
          have hXj : 0 + j < X.length := by rw [HX.out, List.length_append, ← HA.out, ← HL.out]; omega
          obtain ⟨x, hx⟩ : ∃ x, x = A.getD j 0 := ⟨_, rfl⟩
          rw [← hx] at hc
          have hx' : X.getD (0 + j) 0 = x := by rw [HX.out, hx]; exact by rw [Nat.zero_add]; exact getD_left (by rw [← HA.out]; exact hjn)
          have HX' := Lib.hid hx'
          have HXj := Lib.hid hXj
          clear hx hx' hXj
          by_cases hx0 : x = 0
          · have hb1 : (x == 0) = true := by simpa using hx0
            have hb2 : (x != 0) = false := by simp [hx0]
            have hJ2 := Lib.hid (show J (nz (X.take (0 + (j + 1)))) wr from by
              have e := nz_zero HXj.out (HX'.out.trans hx0)
              rw [show 0 + (j + 1) = 0 + j + 1 from by omega, e]; exact hJj.out)
            clear hx0 hJj
            gi_wp2
            refine ⟨fun _ _ => trivial, ?_⟩
            gi_wp2
            go_roundw
            case rel => exact ⟨j + 1, by omega, by go_num, hJ2⟩
            case measure => simp only [intOf]; omega
          · have hb1 : (x == 0) = false := by simpa using hx0
            have hb2 : (x != 0) = true := by simp [hx0]
            obtain ⟨fn, tmps, assign, body, hy, hR⟩ := HY.out _ x _ wr (nz_rest HXj.out HX'.out hb1) hJj.out
            have HE := Lib.hid (show nz (X.take (0 + (j + 1))) = nz (X.take (0 + j)) ++ [x] from by
              rw [show 0 + (j + 1) = 0 + j + 1 from by omega]; exact nz_some HXj.out HX'.out hb1)
            clear hx0 hJj
            gi_wp2
            refine hR.mono ?_
            rintro e W3 ⟨rfl, hJ3⟩
            have hJ2 := Lib.hid (show J (nz (X.take (0 + (j + 1)))) W3 from by rw [HE.out]; exact hJ3)
            clear hJ3 hR hy HE
            gi_wp2
            go_roundw
            case rel => exact ⟨j + 1, by omega, by go_num, hJ2⟩
            case measure => simp only [intOf]; omega
        · obtain rfl : j = na := by omega
          gi_wp2
          go_roundw
          case rel => exact .inr (.inl ⟨rfl, by rw [Nat.zero_add] at hJj; exact hJj⟩)
          case measure => simp only [intOf]; omega
    · -- L
      have hix := (idx2 wr (some ⟨p, 0, none⟩) (some ⟨p, 9, none⟩) na nl 8 16).2
      gi_wp2
      gi_loopw [32] (fun i wr => ∃ j : Nat, j ≤ nl ∧ i = .int .i64 (j : Int) ∧ Hid (J (nz (X.take (na + j))) wr)) (fun i wr => nl - (intOf i).toNat)
      case atStart => exact ⟨0, Nat.zero_le _, rfl, hJk⟩
      case round =>
        clear hJk hix
        obtain ⟨j, hj, rfl, hJj⟩ := hrel
        by_cases hjn : j < nl
        · have hc := (HJ.out _ _ hJj.out).cL (i := j) (by rw [← HL.out]; exact hjn)
          have hXj : na + j < X.length := by rw [HX.out, List.length_append, ← HA.out, ← HL.out]; omega
          obtain ⟨x, hx⟩ : ∃ x, x = L.getD j 0 := ⟨_, rfl⟩
          rw [← hx] at hc
          have hx' : X.getD (na + j) 0 = x := by rw [HX.out, hx]; exact by rw [HA.out]; exact getD_right _ _ _
          have HX' := Lib.hid hx'
          have HXj := Lib.hid hXj
          clear hx hx' hXj
          by_cases hx0 : x = 0
          · have hb1 : (x == 0) = true := by simpa using hx0
            have hb2 : (x != 0) = false := by simp [hx0]
            have hJ2 := Lib.hid (show J (nz (X.take (na + (j + 1)))) wr from by
              have e := nz_zero HXj.out (HX'.out.trans hx0)
              rw [show na + (j + 1) = na + j + 1 from by omega, e]; exact hJj.out)
            clear hx0 hJj
            gi_wp2
            refine ⟨fun _ _ => trivial, ?_⟩
            gi_wp2
            go_roundw
            case rel => exact ⟨j + 1, by omega, by go_num, hJ2⟩
            case measure => simp only [intOf]; omega
          · have hb1 : (x == 0) = false := by simpa using hx0
            have hb2 : (x != 0) = true := by simp [hx0]
            obtain ⟨fn, tmps, assign, body, hy, hR⟩ := HY.out _ x _ wr (nz_rest HXj.out HX'.out hb1) hJj.out
            have HE := Lib.hid (show nz (X.take (na + (j + 1))) = nz (X.take (na + j)) ++ [x] from by
              rw [show na + (j + 1) = na + j + 1 from by omega]; exact nz_some HXj.out HX'.out hb1)
            clear hx0 hJj
            gi_wp2
            refine hR.mono ?_
            rintro e W3 ⟨rfl, hJ3⟩
            have hJ2 := Lib.hid (show J (nz (X.take (na + (j + 1)))) W3 from by rw [HE.out]; exact hJ3)
            clear hJ3 hR hy HE
            gi_wp2
            go_roundw
            case rel => exact ⟨j + 1, by omega, by go_num, hJ2⟩
            case measure => simp only [intOf]; omega
        · obtain rfl : j = nl := by omega
          gi_wp2
          go_roundw
          case rel => exact .inr (.inr ⟨rfl, hJj⟩)
          case measure => simp only [intOf]; omega
    · gi_wp2
      go_end0
      refine ⟨⟨_, rfl⟩, ?_⟩
      have e : X.take (na + nl) = X := List.take_of_length_le (by rw [HX.out, List.length_append, ← HA.out, ← HL.out]; exact Nat.le_refl _)
      rw [← e]
      exact hJk.out

end Go.Proofs.YtmbhhadghiojeaaGreat
