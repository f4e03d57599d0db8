/- Layer 10's acts, one by one, over what they call. Conditions: as each theorem states them. -/
import Derived.Test.YtmbhhadghiojeaaGreatGr1
namespace Go.Proofs.YtmbhhadghiojeaaGreat
set_option linter.unusedVariables false
set_option linter.unusedSimpArgs false
open Go.RowKit

/-- A new row of the numbers of slots. -/
theorem rd_new (w : World) (xs : List Int) : Rd (w.alloc (.cells (ints xs).toArray 3)) (.slice (some ⟨w.heap.size, 0, none⟩) xs.length xs.length) xs := by
  have hb := heap_alloc_new w (.cells (ints xs).toArray 3)
  refine ⟨⟨_, _, rfl, Nat.le_refl _, fun e => (by cases e), fun _ => ⟨_, _, rfl, fun i hi => ?_⟩⟩, fun g hg => ?_⟩
  · rw [Nat.zero_add, cell_of_row hb, ← ints_get xs i hi]; simp
  · rw [blk_some, List.mem_singleton] at hg
    exact ⟨_, hg ▸ hb⟩

/-- What a call of thread answers, or throws; so held; reference; what works on a thread's roots. -/
def ThIs (w : World) (p : Nat) (t : Int) (xs : List Int) (q : Nat) : Prop :=
  ∀ sv w1, Kp [] w w1 → Rd w1 sv xs → Calls Tryz.prog 57 #[.pointer (some ⟨p, 0, none⟩), .int .i64 t, sv] w1 fun e w' => e = .returned (.pointer (some ⟨q, 0, none⟩)) ∧ w1 = w'
def ThNo (w : World) (gv : Option Addr) (t : Int) (xs : List Int) (x : Int) : Prop :=
  ∀ sv w1, Kp [] w w1 → Rd w1 sv xs → Calls Tryz.prog 57 #[.pointer gv, .int .i64 t, sv] w1 fun e w' => e = .panicked [{ v := .iface 25 (.int .i64 x), recovered := false }] ∧ w1 = w'
def HeIs (w : World) (p q : Nat) (s : Int) (u v : Value) : Prop :=
  ∀ w1, Kp [] w w1 → Calls Tryz.prog 62 #[.pointer (some ⟨p, 0, none⟩), .pointer (some ⟨q, 0, none⟩), .int .i64 s] w1 fun e w' => e = .returned (.agg #[u, v]) ∧ Kp [] w1 w'
def HeNo (w : World) (p q : Nat) (s x : Int) : Prop :=
  ∀ w1, Kp [] w w1 → Calls Tryz.prog 62 #[.pointer (some ⟨p, 0, none⟩), .pointer (some ⟨q, 0, none⟩), .int .i64 s] w1 fun e w' => e = .panicked [{ v := .iface 25 (.int .i64 x), recovered := false }] ∧ Kp [] w1 w'
def ReIs (w : World) (q : Nat) (s y : Int) : Prop :=
  ∀ w1, Kp [] w w1 → Calls Tryz.prog 60 #[.pointer (some ⟨q, 0, none⟩), .int .i64 s] w1 fun e w' => e = .returned (.int .i64 y) ∧ w1 = w'
def ReNo (w : World) (q : Nat) (s x : Int) : Prop :=
  ∀ w1, Kp [] w w1 → Calls Tryz.prog 60 #[.pointer (some ⟨q, 0, none⟩), .int .i64 s] w1 fun e w' => e = .panicked [{ v := .iface 25 (.int .i64 x), recovered := false }] ∧ w1 = w'
def OnIs (w : World) (f : FuncId) (q : Nat) (vs : Array Value) (y : Int) (Q : World → Prop) : Prop :=
  ∀ w1, Kp [] w w1 → Calls Tryz.prog f (#[.pointer (some ⟨q, 0, none⟩)] ++ vs) w1 fun e w' => e = .returned (.int .i64 y) ∧ Q w' ∧ Kp [q] w1 w'
def OnNo (w : World) (f : FuncId) (q : Nat) (vs : Array Value) (y : Int) : Prop :=
  ∀ w1, Kp [] w w1 → Calls Tryz.prog f (#[.pointer (some ⟨q, 0, none⟩)] ++ vs) w1 fun e w' => e = .returned (.int .i64 y) ∧ w1 = w'
/-- What an act throws. -/
def Threw (w : World) (x : Int) (e : Ending) (w' : World) : Prop := e = .panicked [{ v := .iface 25 (.int .i64 x), recovered := false }] ∧ Kp [] w w'


theorem field_0 (g1 n1 c1 g2 n2 c2 : Nat) (W : World) : (Instr.field 75 (.agg #[.slice (some ⟨g1, 0, none⟩) n1 c1, .slice (some ⟨g2, 0, none⟩) n2 c2]) 0).run Tryz.prog W = .ok (.slice (some ⟨g1, 0, none⟩) n1 c1) W := by kernel_rfl
theorem field_1 (g1 n1 c1 g2 n2 c2 : Nat) (W : World) : (Instr.field 75 (.agg #[.slice (some ⟨g1, 0, none⟩) n1 c1, .slice (some ⟨g2, 0, none⟩) n2 c2]) 1).run Tryz.prog W = .ok (.slice (some ⟨g2, 0, none⟩) n2 c2) W := by kernel_rfl
theorem item0_int (w : World) (b n c i : Nat) (hi : i < n) (hn : n ≤ 100000) : Calls Tryz.prog 61 #[.slice (some ⟨b, 0, none⟩) n c, .int .i64 i] w fun e w' => e = .returned (.pointer (some ⟨b, i, none⟩)) ∧ w = w' := by
  have h := item_int_ok w b 0 n c i hi hn
  rw [Nat.zero_add] at h
  exact h
theorem item0_u64 (w : World) (b n c i : Nat) (hi : i < n) (hn : n ≤ 100000) : Calls Tryz.prog 67 #[.slice (some ⟨b, 0, none⟩) n c, .int .i64 i] w fun e w' => e = .returned (.pointer (some ⟨b, i, none⟩)) ∧ w = w' := by
  have h := item_u64_ok w b 0 n c i hi hn
  rw [Nat.zero_add] at h
  exact h

set_option maxRecDepth 100000 in
theorem ac_load_th (w : World) (bg bt bd bs bi bn : Nat) (gv : Option Addr) (t d s i x : Int) (hg : w.cell? ⟨bg, 0, none⟩ = some (.pointer gv)) (ht : w.cell? ⟨bt, 0, none⟩ = some (.int .i64 t)) (hd : w.cell? ⟨bd, 0, none⟩ = some (.int .i64 d)) (hs : w.cell? ⟨bs, 0, none⟩ = some (.int .i64 s)) (hi : w.cell? ⟨bi, 0, none⟩ = some (.int .i64 i)) (hth : ThNo w gv t [d, s] x) :
    Calls Tryz.prog 64 #[.pointer (some ⟨bg, 0, none⟩), .pointer (some ⟨bt, 0, none⟩), .pointer (some ⟨bd, 0, none⟩), .pointer (some ⟨bs, 0, none⟩), .pointer (some ⟨bi, 0, none⟩), .pointer (some ⟨bn, 0, none⟩)] w (Threw w x) := by
  have ka : Kp [] w (w.alloc (.cells #[.int .i64 d, .int .i64 s] 3)) := (Kp.refl _ _).alloc _
  have h1 := hth _ _ ka (rd_new w [d, s])
  have KA := Lib.hid ka
  clear hth ka
  simp only [List.length_cons, List.length_nil] at h1
  go_enter Tryz.func64, Tryz.ntmps64
  go_wp2_with fail
  refine h1.mono ?_
  rintro e w1 ⟨rfl, rfl⟩
  exact ⟨rfl, rfl, KA.out⟩

set_option maxRecDepth 100000 in
theorem ac_store_th (w : World) (bg bt bd bs bi : Nat) (gv : Option Addr) (t d s i x : Int) (hg : w.cell? ⟨bg, 0, none⟩ = some (.pointer gv)) (ht : w.cell? ⟨bt, 0, none⟩ = some (.int .i64 t)) (hd : w.cell? ⟨bd, 0, none⟩ = some (.int .i64 d)) (hs : w.cell? ⟨bs, 0, none⟩ = some (.int .i64 s)) (hi : w.cell? ⟨bi, 0, none⟩ = some (.int .i64 i)) (hth : ThNo w gv t [d, s] x) :
    Calls Tryz.prog 59 #[.pointer (some ⟨bg, 0, none⟩), .pointer (some ⟨bt, 0, none⟩), .pointer (some ⟨bd, 0, none⟩), .pointer (some ⟨bs, 0, none⟩), .pointer (some ⟨bi, 0, none⟩)] w (Threw w x) := by
  have ka : Kp [] w (w.alloc (.cells #[.int .i64 d, .int .i64 s] 3)) := (Kp.refl _ _).alloc _
  have h1 := hth _ _ ka (rd_new w [d, s])
  have KA := Lib.hid ka
  clear hth ka
  simp only [List.length_cons, List.length_nil] at h1
  go_enter Tryz.func59, Tryz.ntmps59
  go_wp2_with fail
  refine h1.mono ?_
  rintro e w1 ⟨rfl, rfl⟩
  exact ⟨rfl, rfl, KA.out⟩

set_option maxRecDepth 100000 in
theorem ac_read_th (w : World) (bg bt bs bi bn : Nat) (gv : Option Addr) (t s i x : Int) (hg : w.cell? ⟨bg, 0, none⟩ = some (.pointer gv)) (ht : w.cell? ⟨bt, 0, none⟩ = some (.int .i64 t)) (hs : w.cell? ⟨bs, 0, none⟩ = some (.int .i64 s)) (hi : w.cell? ⟨bi, 0, none⟩ = some (.int .i64 i)) (hth : ThNo w gv t [s] x) :
    Calls Tryz.prog 66 #[.pointer (some ⟨bg, 0, none⟩), .pointer (some ⟨bt, 0, none⟩), .pointer (some ⟨bs, 0, none⟩), .pointer (some ⟨bi, 0, none⟩), .pointer (some ⟨bn, 0, none⟩)] w (Threw w x) := by
  have ka : Kp [] w (w.alloc (.cells #[.int .i64 s] 3)) := (Kp.refl _ _).alloc _
  have h1 := hth _ _ ka (rd_new w [s])
  have KA := Lib.hid ka
  clear hth ka
  simp only [List.length_cons, List.length_nil] at h1
  go_enter Tryz.func66, Tryz.ntmps66
  go_wp2_with fail
  refine h1.mono ?_
  rintro e w1 ⟨rfl, rfl⟩
  exact ⟨rfl, rfl, KA.out⟩

set_option maxRecDepth 100000 in
theorem ac_write_th (w : World) (bg bt bs bv bi : Nat) (gv : Option Addr) (t s v i x : Int) (hg : w.cell? ⟨bg, 0, none⟩ = some (.pointer gv)) (ht : w.cell? ⟨bt, 0, none⟩ = some (.int .i64 t)) (hs : w.cell? ⟨bs, 0, none⟩ = some (.int .i64 s)) (hv : w.cell? ⟨bv, 0, none⟩ = some (.int .u64 v)) (hi : w.cell? ⟨bi, 0, none⟩ = some (.int .i64 i)) (hth : ThNo w gv t [s] x) :
    Calls Tryz.prog 68 #[.pointer (some ⟨bg, 0, none⟩), .pointer (some ⟨bt, 0, none⟩), .pointer (some ⟨bs, 0, none⟩), .pointer (some ⟨bv, 0, none⟩), .pointer (some ⟨bi, 0, none⟩)] w (Threw w x) := by
  have ka : Kp [] w (w.alloc (.cells #[.int .i64 s] 3)) := (Kp.refl _ _).alloc _
  have h1 := hth _ _ ka (rd_new w [s])
  have KA := Lib.hid ka
  clear hth ka
  simp only [List.length_cons, List.length_nil] at h1
  go_enter Tryz.func68, Tryz.ntmps68
  go_wp2_with fail
  refine h1.mono ?_
  rintro e w1 ⟨rfl, rfl⟩
  exact ⟨rfl, rfl, KA.out⟩

set_option maxRecDepth 100000 in
theorem ac_get_th (w : World) (bg bt bd bi bn : Nat) (gv : Option Addr) (t d i x : Int) (hg : w.cell? ⟨bg, 0, none⟩ = some (.pointer gv)) (ht : w.cell? ⟨bt, 0, none⟩ = some (.int .i64 t)) (hd : w.cell? ⟨bd, 0, none⟩ = some (.int .i64 d)) (hi : w.cell? ⟨bi, 0, none⟩ = some (.int .i64 i)) (hth : ThNo w gv t [d] x) :
    Calls Tryz.prog 69 #[.pointer (some ⟨bg, 0, none⟩), .pointer (some ⟨bt, 0, none⟩), .pointer (some ⟨bd, 0, none⟩), .pointer (some ⟨bi, 0, none⟩), .pointer (some ⟨bn, 0, none⟩)] w (Threw w x) := by
  have ka : Kp [] w (w.alloc (.cells #[.int .i64 d] 3)) := (Kp.refl _ _).alloc _
  have h1 := hth _ _ ka (rd_new w [d])
  have KA := Lib.hid ka
  clear hth ka
  simp only [List.length_cons, List.length_nil] at h1
  go_enter Tryz.func69, Tryz.ntmps69
  go_wp2_with fail
  refine h1.mono ?_
  rintro e w1 ⟨rfl, rfl⟩
  exact ⟨rfl, rfl, KA.out⟩

set_option maxRecDepth 100000 in
theorem ac_put_th (w : World) (bg bt bs bi : Nat) (gv : Option Addr) (t s i x : Int) (hg : w.cell? ⟨bg, 0, none⟩ = some (.pointer gv)) (ht : w.cell? ⟨bt, 0, none⟩ = some (.int .i64 t)) (hs : w.cell? ⟨bs, 0, none⟩ = some (.int .i64 s)) (hi : w.cell? ⟨bi, 0, none⟩ = some (.int .i64 i)) (hth : ThNo w gv t [s] x) :
    Calls Tryz.prog 70 #[.pointer (some ⟨bg, 0, none⟩), .pointer (some ⟨bt, 0, none⟩), .pointer (some ⟨bs, 0, none⟩), .pointer (some ⟨bi, 0, none⟩)] w (Threw w x) := by
  have ka : Kp [] w (w.alloc (.cells #[.int .i64 s] 3)) := (Kp.refl _ _).alloc _
  have h1 := hth _ _ ka (rd_new w [s])
  have KA := Lib.hid ka
  clear hth ka
  simp only [List.length_cons, List.length_nil] at h1
  go_enter Tryz.func70, Tryz.ntmps70
  go_wp2_with fail
  refine h1.mono ?_
  rintro e w1 ⟨rfl, rfl⟩
  exact ⟨rfl, rfl, KA.out⟩

set_option maxRecDepth 100000 in
theorem ac_move_th (w : World) (bg bt bd bs : Nat) (gv : Option Addr) (t d s x : Int) (hg : w.cell? ⟨bg, 0, none⟩ = some (.pointer gv)) (ht : w.cell? ⟨bt, 0, none⟩ = some (.int .i64 t)) (hd : w.cell? ⟨bd, 0, none⟩ = some (.int .i64 d)) (hs : w.cell? ⟨bs, 0, none⟩ = some (.int .i64 s)) (hth : ThNo w gv t [d, s] x) :
    Calls Tryz.prog 71 #[.pointer (some ⟨bg, 0, none⟩), .pointer (some ⟨bt, 0, none⟩), .pointer (some ⟨bd, 0, none⟩), .pointer (some ⟨bs, 0, none⟩)] w (Threw w x) := by
  have ka : Kp [] w (w.alloc (.cells #[.int .i64 d, .int .i64 s] 3)) := (Kp.refl _ _).alloc _
  have h1 := hth _ _ ka (rd_new w [d, s])
  have KA := Lib.hid ka
  clear hth ka
  simp only [List.length_cons, List.length_nil] at h1
  go_enter Tryz.func71, Tryz.ntmps71
  go_wp2_with fail
  refine h1.mono ?_
  rintro e w1 ⟨rfl, rfl⟩
  exact ⟨rfl, rfl, KA.out⟩


/-- What an act has made: a world that has turned on S at most, in which Q; and a box that is laid. -/
def Made (w : World) (S : List Nat) (Q : World → Prop) (b o : Nat) (v : Value) (e : Ending) (w' : World) : Prop := e = .returned (.tuple #[]) ∧ ∃ w2, Q w2 ∧ Kp S w w2 ∧ w' = w2.setCell ⟨b, o, none⟩ v
def MadeS (w : World) (S : List Nat) (Q : World → Prop) (e : Ending) (w' : World) : Prop := e = .returned (.tuple #[]) ∧ Q w' ∧ Kp S w w'
theorem kp_then {S : List Nat} {a b c : World} (h : Kp [] a b) (k : Kp S b c) : Kp S a c := (h.mono (by simp)).trans k

end Go.Proofs.YtmbhhadghiojeaaGreat
