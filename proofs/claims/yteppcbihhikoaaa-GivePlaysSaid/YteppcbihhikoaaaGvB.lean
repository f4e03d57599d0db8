/- The walks of package give, on: Begin, Entry, Set, Claim. Conditions: as each theorem states them. -/
import Derived.Test.YteppcbihhikoaaaGvA
import Derived.Test.YteppcbihhikoaaaLyN
import Derived.Test.YteppcbihhikoaaaLaw
import Derived.Deep.CutBlock
import Derived.Deep.CutRange
import Derived.Deep.DeepCutAuto
namespace Go.Proofs.Yteppcbihhikoaaa
set_option linter.unusedVariables false
set_option linter.unusedSimpArgs false
open Go.RowKit

theorem kp_cell {S : List Nat} {w w' : World} (k : Kp S w w') {g o : Nat} (hg : g ∉ S) {v : Value} (h : w.cell? ⟨g, o, none⟩ = some v) : w'.cell? ⟨g, o, none⟩ = some v :=
  (World.cell?_of_block (a := ⟨g, o, none⟩) (k.block g (World.block_lt_of_cell? _ _ h) hg)).trans h

/-- A layout's box. -/
structure Lx (a n : Nat) (w : World) : Prop where
  c0 : w.cell? ⟨a, 0, none⟩ = some (.int .i64 1)
  c1 : w.cell? ⟨a, 1, none⟩ = some (.int .i64 1)
  c2 : w.cell? ⟨a, 2, none⟩ = some (.int .i64 n)
theorem Lx.keep {S : List Nat} {a n : Nat} {w w' : World} (h : Lx a n w) (k : Kp S w w') (ha : a ∉ S) : Lx a n w' := ⟨kp_cell k ha h.c0, kp_cell k ha h.c1, kp_cell k ha h.c2⟩
theorem Lx.new (w : World) (n : Nat) : Lx w.heap.size n (w.alloc (.cells #[.int .i64 1, .int .i64 1, .int .i64 n] 26)) := ⟨by simp, by simp, by simp⟩

theorem na_write (k : Nat) (a : Addr) (w : World) : (nilAhead (k + 1) 24 (.pointer (some a)) "Write").run Try.prog w = .ok (some false) w := by kernel_rfl
theorem na_read (k : Nat) (a : Addr) (w : World) : (nilAhead (k + 1) 24 (.pointer (some a)) "Read").run Try.prog w = .ok (some false) w := by kernel_rfl

section
variable {n p r t : Nat} {g : Gv} {w w' : World}
set_option maxRecDepth 100000 in
set_option maxHeartbeats 2000000 in
theorem g_begin (h : Gw n p r g t w) (ht : t ≤ 900000) (M' : Nat) (hM : 2 ^ min n 64 - 1 = M') :
    Calls Try.prog 6 #[.iface 24 (.pointer (some ⟨p, 0, none⟩)), .agg #[.int .i64 1, .int .i64 1, .int .i64 n]] w fun e w' => e = .returned (.tuple #[]) ∧ Gw n p r ⟨M', g.E⟩ (t + 1) w' ∧ Kp [p, r] w w' := by
  have hB := Lib.hid (fun w => Ly.blocks_is 1 1 n w)
  have hA := Lib.hid (fun w => Bm.all_is n M' w (by simpa using hM))
  have hlt : M' < 18446744073709551616 := by
    have h1 : 2 ^ min n 64 ≤ 2 ^ 64 := Nat.pow_le_pow_right (by omega) (Nat.min_le_right _ _)
    have h2 := Nat.two_pow_pos (min n 64)
    omega
  have HL := Lib.hid hlt
  have K0 := Lib.hid ((Kp.refl [] w).alloc (.cells #[.int .i64 1, .int .i64 1, .int .i64 n] 26))
  have HG := Lib.hid h
  clear hM hlt
  have hna := na_write
  go_enter Try.func6, Try.ntmps6
  go_wp2
  go_region_with (first
    | (go_at_call 26; refine (hB.out _).mono ?_; rintro e w1 ⟨rfl, hk⟩; have K1 : Hid (Kp [] w w1) := Lib.hid (by refine K0.out.trans (Kp.trans ?_ hk); exact ⟨rfl, rfl, rfl, Nat.le_refl _, fun _ _ _ => rfl⟩); clear hk)
    | (go_at_call 27; refine (hA.out _).mono ?_; rintro e w2 ⟨rfl, rfl⟩)
    | (go_at_call 81
       refine (wr_map (HG.out.on (K1.out.trans ?_)) ht M' HL.out).mono ?_
       · exact ⟨rfl, rfl, rfl, Nat.le_refl _, fun _ _ _ => rfl⟩
       rintro e w3 ⟨rfl, hg, hk⟩
       have G3 := Lib.hid hg
       have K3 : Hid (Kp [p, r] w w3) := Lib.hid (by refine (K1.out.mono (by simp)).trans (Kp.trans ?_ hk); exact ⟨rfl, rfl, rfl, Nat.le_refl _, fun _ _ _ => rfl⟩)
       clear hg hk))
  all_goals
    go_wp2
    go_end0
    exact ⟨rfl, G3.out, K3.out⟩

/-- The parts of an entry's word. -/
def ek (x : Int) : Int := if Tb.takeE x then x % 8 else 0
def ec (x : Int) : Int := if Tb.takeE x then x / 8 % 4 else 0
def er (x : Int) : Int := if Tb.takeE x then x / 32 % 4 else 0
def eo (x : Int) : Int := if Tb.takeE x then x / 128 % 64 else 0
def ee (x : Int) : Int := if Tb.takeE x then 0 else 3
theorem take_part (x : Int) (w : World) (h0 : 0 ≤ x) (h1 : x < 18446744073709551616) :
    Calls Try.prog 48 #[.int .u64 x] w fun e w' => e = .returned (.tuple #[.agg #[.int .u8 (ek x), .int .u8 (ec x), .int .u8 (er x), .int .u8 (eo x)], .int .i64 (ee x)]) ∧ Kp [] w w' := by
  unfold ek ec er eo ee
  cases h : Tb.takeE x
  · exact Tb.take_none x w h0 h1 h
  · exact Tb.take_some x w h0 h
theorem entry_at (k : Nat) (w : World) (hn : n ≤ 64) (hk : k < n) : Calls Try.prog 22 #[.agg #[.int .i64 1, .int .i64 1, .int .i64 n], .int .i64 k] w fun e w' => e = .returned (.int .i64 (5 + k)) ∧ Kp [] w w' :=
  Ly.entry_is 1 1 n k (5 + k) w (by rw [Ly.rowP_in (by omega) (by omega)]; omega) (by omega) (by omega) (by omega) (by omega) (by omega) (by omega)

end
end Go.Proofs.Yteppcbihhikoaaa
