/- AgentPlays: from its entry to its first loop; where it asks nothing. Written by gen/ap_d.py. AgentPlays: pieces of its first loop, each done alone. Written by gen/ap_e.py. AgentPlays: what all share; its program from its begin, whatever it has to do. Written by gen/ap_f.py. Conditions: as each theorem states them. -/
import Derived.Test.YtnbibpmhmffmpaaPa17
import Derived.Test.YtnbibpmhmffmpaaPa18
namespace Go.Proofs.Ytnbibpmhmffmpaa
open List renaming getElem_toArray → gtA, getElem_cons_zero → gtZ, getElem_cons_succ → gtS, setIfInBounds_toArray → siA, set_cons_succ → scS, set_cons_zero → scZ, getElem?_toArray → gqA, getElem?_cons_zero → gqZ, getElem?_cons_succ → gqS
set_option linter.unusedVariables false
set_option linter.unusedSimpArgs false
set_option maxRecDepth 100000
open Go.RowKit
open Go.Conc
open Go.ConcN (upd_ne upd_same)

/-- What came in lies as it lay. -/
def InW (W w : World) : Prop := ∀ b, poorless W b → w.heap[b]? = W.heap[b]?
theorem priv_in (W : World) : Priv (poorless W) (InW W) :=
  ⟨fun w w' h hb b hp => (hb b hp).trans (h b hp), fun w b h hp => by rw [h b hp]; exact hp.2, fun w b h hp => by
    have e := h b hp
    rw [Array.getElem?_eq_getElem hp.1] at e
    exact (Array.getElem?_eq_some_iff.1 e).1⟩
theorem in_self (W : World) : InW W W := fun _ _ => rfl
theorem poorless_cell {W : World} {b o : Nat} {v : Value} (h : W.cell? ⟨b, o, none⟩ = some v) : poorless W b := by
  refine ⟨World.block_lt_of_cell? _ _ h, ?_⟩
  cases ho : W.heap[b]? with
  | none => rfl
  | some ob =>
    cases ob <;> first | rfl | (exfalso; simp [World.cell?, ho] at h)
theorem in_cell {W w : World} {b o : Nat} {v : Value} (h : InW W w) (hc : W.cell? ⟨b, o, none⟩ = some v) : w.cell? ⟨b, o, none⟩ = some v := by
  rw [World.cell?_of_block (h b (poorless_cell hc))]; exact hc
theorem Touches.inw {W w : World} {ao : Option Addr} {l : List Tch} (hw : InW W w) (h : Touches W ao l) : Touches w ao l := fun i x hx => by
  obtain ⟨h1, b, o, h2, h3, h4, h5⟩ := h i x hx
  exact ⟨h1, b, o, h2, in_cell hw h3, in_cell hw h4, in_cell hw h5⟩
theorem Progs.inw {W w : World} {ao : Option Addr} {L : List Pr} (hw : InW W w) (h : Progs W ao L) : Progs w ao L := fun i p hp => by
  obtain ⟨h1, b, o, h2, h3⟩ := h i p hp
  exact ⟨h1.inw hw, b, o, h2, in_cell hw h3⟩

def apR0 (f : Func) : Code := bodyOf f
def apR1 (f : Func) : Code := codeR (bodyOf f)
def apR2 (f : Func) : Code := codeR (codeR (bodyOf f))
def apR3 (f : Func) : Code := codeR (codeR (codeR (bodyOf f)))
def apR4 (f : Func) : Code := codeR (codeR (codeR (codeR (bodyOf f))))
def apR5 (f : Func) : Code := codeR (codeR (codeR (codeR (codeR (bodyOf f)))))
def apR6 (f : Func) : Code := codeR (codeR (codeR (codeR (codeR (codeR (bodyOf f))))))
def apR7 (f : Func) : Code := codeR (codeR (codeR (codeR (codeR (codeR (codeR (bodyOf f)))))))
def apR8 (f : Func) : Code := codeR (codeR (codeR (codeR (codeR (codeR (codeR (codeR (bodyOf f))))))))
def apR9 (f : Func) : Code := codeR (codeR (codeR (codeR (codeR (codeR (codeR (codeR (codeR (bodyOf f)))))))))
def apR10 (f : Func) : Code := codeR (codeR (codeR (codeR (codeR (codeR (codeR (codeR (codeR (codeR (bodyOf f))))))))))
def apR11 (f : Func) : Code := codeR (codeR (codeR (codeR (codeR (codeR (codeR (codeR (codeR (codeR (codeR (bodyOf f)))))))))))
def apR12 (f : Func) : Code := codeR (codeR (codeR (codeR (codeR (codeR (codeR (codeR (codeR (codeR (codeR (codeR (bodyOf f))))))))))))
def apR13 (f : Func) : Code := codeR (codeR (codeR (codeR (codeR (codeR (codeR (codeR (codeR (codeR (codeR (codeR (codeR (bodyOf f)))))))))))))
def apP0 (f : Func) : Code := codeL (bodyOf f)
def apP1 (f : Func) : Code := codeL (codeR (bodyOf f))
def apP2 (f : Func) : Code := codeL (codeR (codeR (bodyOf f)))
def apP3 (f : Func) : Code := codeL (codeR (codeR (codeR (bodyOf f))))
def apP4 (f : Func) : Code := codeL (codeR (codeR (codeR (codeR (bodyOf f)))))
def apP5 (f : Func) : Code := codeL (codeR (codeR (codeR (codeR (codeR (bodyOf f))))))
def apP6 (f : Func) : Code := codeL (codeR (codeR (codeR (codeR (codeR (codeR (bodyOf f)))))))
def apP7 (f : Func) : Code := codeL (codeR (codeR (codeR (codeR (codeR (codeR (codeR (bodyOf f))))))))
def apP8 (f : Func) : Code := codeL (codeR (codeR (codeR (codeR (codeR (codeR (codeR (codeR (bodyOf f)))))))))
theorem priv_arY (pA rA : Nat) (s : St) : Priv (fun b => b = pA ∨ b = rA) (fun w => Ar w pA rA s) := by
  refine ⟨fun w w' h hb => ⟨(hb _ (.inl rfl)).trans h.hp, (hb _ (.inr rfl)).trans h.hr⟩, fun w b h hb => ?_, fun w b h hb => ?_⟩
  · rcases hb with rfl | rfl
    · rw [h.hp]; rfl
    · rw [h.hr]; rfl
  · rcases hb with rfl | rfl
    · exact h.lt.1
    · exact h.lt.2
theorem three_at (a b c : Value) : ∃ x, (#[a, b, c] : Array Value) ++ Array.replicate 284 undef = T287 x ∧ x 0 = a ∧ x 1 = b ∧ x 2 = c := by
  refine ⟨_, arr287 _ (by simp), ?_, ?_, ?_⟩ <;> simp [Array.getD, Array.getElem_append]
section
variable {pl : Nat → Option Place} {w : World} {N h : Nat} {Post : Value → World → Prop} {own : Nat → Prop} {A : World → Prop} {b : Frame} {x : Nat → Value} {k : List Item} {c : Code}
/-- A piece that turns nothing. -/
theorem piece_stillY (hpl : ∀ i, pl i = none) (hP : Priv own A) (hA : A w) {K' : List (Nat × Value)} (hok : StOK Try.prog (b.at ⟨T287 x, []⟩ (.code c :: k)) [])
    (hc : ∀ (wt : World) (Q : Exit → Act → World → Prop), A wt → (∀ a', FrY K' a' → Q .normal a' wt) → c.wp Try.prog Q ⟨T287 x, []⟩ wt)
    (H : ∀ (x' : Nat → Value) w', HasY x' K' → A w' → Ks (fun _ => False) w w' → Win Try.prog Post pl N h (gor (b.at ⟨T287 x', []⟩ k) []) w') :
    Win Try.prog Post pl N h (gor (b.at ⟨T287 x, []⟩ (.code c :: k)) []) w := by
  refine (lies_none hpl w).pieceY (fun _ _ => rfl) (ι := Unit) (S := fun _ => False) hP hA (fun _ _ => rfl) (own' := fun _ => own) (A' := fun _ => A) (fun _ => hP) (K' := fun _ => K') hok (fun wt Q h1 _ _ hQ => hc wt Q h1 fun a' hf => hQ a' () wt (fun y hy => .inl hy) hf h1 (Ks.refl _ _)) fun x' i w' _ hx ha hk _ => H x' w' hx ha hk
/-- A piece that makes blocks. -/
theorem piece_newY (hpl : ∀ i, pl i = none) (hP : Priv own A) (hA : A w) {ι : Type} {own' : ι → Nat → Prop} {A' : ι → World → Prop} (hP' : ∀ i, Priv (own' i) (A' i)) (hfr : ∀ i y, own' i y → w.heap.size ≤ y) {K' : ι → List (Nat × Value)} (hok : StOK Try.prog (b.at ⟨T287 x, []⟩ (.code c :: k)) [])
    (hc : ∀ (wt : World) (Q : Exit → Act → World → Prop), A wt → wt.heap.size = w.heap.size → (∀ a' i w', FrY (K' i) a' → A' i w' → Kp [] wt w' → Q .normal a' w') → c.wp Try.prog Q ⟨T287 x, []⟩ wt)
    (H : ∀ (x' : Nat → Value) i w', HasY x' (K' i) → A w' → A' i w' → Ks (fun _ => False) w w' → Win Try.prog Post pl N h (gor (b.at ⟨T287 x', []⟩ k) []) w') :
    Win Try.prog Post pl N h (gor (b.at ⟨T287 x, []⟩ (.code c :: k)) []) w := by
  refine (lies_none hpl w).pieceY (fun _ _ => rfl) (ι := ι) (S := fun _ => False) hP hA (fun _ _ => rfl) (own' := fun i y => own y ∨ own' i y) (A' := fun i w => A w ∧ A' i w) (fun i => hP.and (hP' i)) (K' := K') hok (fun wt Q h1 h2 _ hQ => hc wt Q h1 h2 fun a' i w' hf ha hk => hQ a' i w' (fun y hy => hy.imp id fun z => ⟨by have := hfr i y z; omega, (hP' i).lt _ _ ha z⟩) hf ⟨hP.st _ _ h1 fun y hy => hk.block y (hP.lt _ _ h1 hy) (by simp), ha⟩ ((ks_of_kp hk).mono fun _ _ z => by simp at z)) fun x' i w' _ hx ha hk _ => H x' i w' hx ha.1 ha.2 hk
end
section
variable {x : Nat → Value} {wt : World} {Q : Exit → Act → World → Prop} {ao bo : Option Addr} {wd n M K cl co pA bl bm : Nat}

theorem make_words (n : Nat) (h2 : n ≤ 4096) (w : World) : (Instr.makeSlice 32 (.int .i64 (n : Int)) (.int .i64 (n : Int))).run Try.prog w = .ok (.slice (some ⟨w.heap.size, 0, none⟩) n n) (w.alloc (.cells (u64s (List.replicate n 0)) 40)) := by
  obtain ⟨i, hi, hz0, hz1, hz2⟩ := info_parts (P := Try.prog) (e := 40) (z := .int .u64 0) (size := 1) (bytes := 8) (by kernel_rfl)
  have := run_make (P := Try.prog) w 32 40 i (.int .u64 0) Try.underlying32 hi hz0 .i64 .i64 n n (by omega) (Int.le_refl _) (by rw [hz2]; omega) (by omega)
  have e : madeCells #[.int .u64 0] n = u64s (List.replicate n 0) := by
    apply Array.ext'
    rw [toList_madeCells_one]
    simp [u64s]
  rw [this, hz1]
  simp [Value.cells, e]
theorem ap_p0 (hx0 : x 0 = .int .u8 wd) (hx1 : x 1 = .slice ao M cl) (hx2 : x 2 = .slice bo K co)  (hQ : ∀ a', FrY [(0, .int .u8 wd), (1, .slice ao M cl), (2, .slice bo K co)] a' → Q .normal a' wt) : (apP0 Try.f3).wp Try.prog Q ⟨T287 x, []⟩ wt := by
  have HQ := Lib.hid hQ
  clear hQ
  simp only [apP0, bodyOf, Try.f3, codeL, codeR, blockOf, loopOf, Option.getD_some, T287]
  simp only [hx0, hx1, hx2]
  go_wp2
  exact HQ.out _ ⟨rfl, rfl, ⟨rfl, rfl, rfl, trivial⟩⟩

theorem ap_p1 (hx0 : x 0 = .int .u8 wd) (hx1 : x 1 = .slice ao M cl) (hx2 : x 2 = .slice bo K co) {L : List Pr} (hL : Progs wt ao L) (hM : M = L.length) (hg : greatB L K = false) (h1 : 1 ≤ wd) (h20 : wd ≤ 20) (hQ : ∀ a', FrY [(0, .int .u8 wd), (1, .slice ao M cl), (2, .slice bo K co)] a' → Q .normal a' wt) : (apP1 Try.f3).wp Try.prog Q ⟨T287 x, []⟩ wt := by
  have HQ := Lib.hid hQ
  have HN := Lib.hid (great_is wt ao bo L cl K co hL)
  rw [hg, ← hM] at HN
  have h1' : ¬ wd < 1 := by omega
  have h20' : ¬ 20 < wd := by omega
  clear hL hM hg h1 h20
  clear hQ
  simp only [apP1, bodyOf, Try.f3, codeL, codeR, blockOf, loopOf, Option.getD_some, T287]
  simp only [hx0, hx1, hx2]
  go_wp2_with fail
  refine HN.out.mono ?_
  rintro e w1 ⟨rfl, rfl⟩
  go_wp2
  exact HQ.out _ ⟨rfl, rfl, ⟨rfl, rfl, rfl, trivial⟩⟩

theorem ap_p2 (hx0 : x 0 = .int .u8 wd) (hx1 : x 1 = .slice ao M cl) (hx2 : x 2 = .slice bo K co) (h1 : 1 ≤ wd) (h20 : wd ≤ 20) (hQ : ∀ a' w', FrY [(0, .int .u8 wd), (1, .slice ao M cl), (2, .slice bo K co), (7, .pointer (some ⟨wt.heap.size + 1, 0, none⟩)), (8, .int .i64 0)] a' → Ar w' (wt.heap.size + 1) wt.heap.size (fresh wd) → Kp [] wt w' → Q .normal a' w') : (apP2 Try.f3).wp Try.prog Q ⟨T287 x, []⟩ wt := by
  have HQ := Lib.hid hQ
  have HN := Lib.hid (new_good wt wd h1 (by omega))
  clear hQ
  simp only [apP2, bodyOf, Try.f3, codeL, codeR, blockOf, loopOf, Option.getD_some, T287]
  simp only [hx0, hx1, hx2]
  go_wp2_with fail
  refine HN.out.mono ?_
  rintro e w1 ⟨rfl, ha, hk⟩
  have HA := Lib.hid (And.intro ha hk)
  clear ha hk HN
  go_wp2
  exact HQ.out _ _ ⟨rfl, rfl, ⟨rfl, rfl, rfl, rfl, rfl, trivial⟩⟩ HA.out.1 HA.out.2

theorem ap_p3 (hx0 : x 0 = .int .u8 wd) (hx1 : x 1 = .slice ao M cl) (hx2 : x 2 = .slice bo K co) (hx7 : x 7 = .pointer (some ⟨pA, 0, none⟩)) (hx8 : x 8 = .int .i64 0)  (hQ : ∀ a', FrY [(0, .int .u8 wd), (1, .slice ao M cl), (2, .slice bo K co), (7, .pointer (some ⟨pA, 0, none⟩))] a' → Q .normal a' wt) : (apP3 Try.f3).wp Try.prog Q ⟨T287 x, []⟩ wt := by
  have HQ := Lib.hid hQ
  have hnil : ∀ (a : Addr) (w : World), (binOp .eql 26 (.pointer (some a)) (.pointer none)).run Try.prog w = .ok (.bool false) w := fun a w => by kernel_rfl
  clear hQ
  simp only [apP3, bodyOf, Try.f3, codeL, codeR, blockOf, loopOf, Option.getD_some, T287]
  simp only [hx0, hx1, hx2, hx7, hx8]
  go_wp2
  exact HQ.out _ ⟨rfl, rfl, ⟨rfl, rfl, rfl, rfl, trivial⟩⟩

theorem ap_p4 (hx0 : x 0 = .int .u8 wd) (hx1 : x 1 = .slice ao M cl) (hx2 : x 2 = .slice bo K co) (hx7 : x 7 = .pointer (some ⟨pA, 0, none⟩))  (hQ : ∀ a', FrY [(0, .int .u8 wd), (1, .slice ao M cl), (2, .slice bo K co), (7, .pointer (some ⟨pA, 0, none⟩)), (9, .slice none 0 0)] a' → Q .normal a' wt) : (apP4 Try.f3).wp Try.prog Q ⟨T287 x, []⟩ wt := by
  have HQ := Lib.hid hQ
  clear hQ
  simp only [apP4, bodyOf, Try.f3, codeL, codeR, blockOf, loopOf, Option.getD_some, T287]
  simp only [hx0, hx1, hx2, hx7]
  go_wp2
  exact HQ.out _ ⟨rfl, rfl, ⟨rfl, rfl, rfl, rfl, rfl, trivial⟩⟩

theorem ap_p5 (hx0 : x 0 = .int .u8 wd) (hx1 : x 1 = .slice ao M cl) (hx2 : x 2 = .slice bo K co) (hx7 : x 7 = .pointer (some ⟨pA, 0, none⟩)) (hx9 : x 9 = .slice none 0 0)  (hQ : ∀ a', FrY [(0, .int .u8 wd), (1, .slice ao M cl), (2, .slice bo K co), (7, .pointer (some ⟨pA, 0, none⟩)), (9, .slice none 0 0), (10, .slice none 0 0)] a' → Q .normal a' wt) : (apP5 Try.f3).wp Try.prog Q ⟨T287 x, []⟩ wt := by
  have HQ := Lib.hid hQ
  clear hQ
  simp only [apP5, bodyOf, Try.f3, codeL, codeR, blockOf, loopOf, Option.getD_some, T287]
  simp only [hx0, hx1, hx2, hx7, hx9]
  go_wp2
  exact HQ.out _ ⟨rfl, rfl, ⟨rfl, rfl, rfl, rfl, rfl, rfl, trivial⟩⟩

theorem ap_p6 (hx0 : x 0 = .int .u8 wd) (hx1 : x 1 = .slice ao M cl) (hx2 : x 2 = .slice bo K co) (hx7 : x 7 = .pointer (some ⟨pA, 0, none⟩)) (hx9 : x 9 = .slice none 0 0) (hx10 : x 10 = .slice none 0 0) (hM5 : M ≤ 5) (hQ : ∀ a' w', FrY [(0, .int .u8 wd), (1, .slice ao M cl), (2, .slice bo K co), (7, .pointer (some ⟨pA, 0, none⟩)), (9, .slice none 0 0), (10, .slice none 0 0), (11, .slice (some ⟨wt.heap.size, 0, none⟩) M M)] a' → w'.heap[wt.heap.size]? = some (.cells (u64s (List.replicate M 0)) 40 (0, 0)) → Kp [] wt w' → Q .normal a' w') : (apP6 Try.f3).wp Try.prog Q ⟨T287 x, []⟩ wt := by
  have HQ := Lib.hid hQ
  have hmk := make_words M (by omega)
  clear hQ
  simp only [apP6, bodyOf, Try.f3, codeL, codeR, blockOf, loopOf, Option.getD_some, T287]
  simp only [hx0, hx1, hx2, hx7, hx9, hx10]
  go_wp2
  exact HQ.out _ _ ⟨rfl, rfl, ⟨rfl, rfl, rfl, rfl, rfl, rfl, rfl, trivial⟩⟩ (heap_alloc_new wt _) ((Kp.refl _ _).alloc _)

theorem ap_p7 (hx0 : x 0 = .int .u8 wd) (hx1 : x 1 = .slice ao M cl) (hx2 : x 2 = .slice bo K co) (hx7 : x 7 = .pointer (some ⟨pA, 0, none⟩)) (hx9 : x 9 = .slice none 0 0) (hx10 : x 10 = .slice none 0 0) (hx11 : x 11 = .slice (some ⟨bl, 0, none⟩) M M) (hn20 : wd ≤ 20) (hQ : ∀ a' w', FrY [(0, .int .u8 wd), (1, .slice ao M cl), (2, .slice bo K co), (7, .pointer (some ⟨pA, 0, none⟩)), (9, .slice none 0 0), (10, .slice none 0 0), (11, .slice (some ⟨bl, 0, none⟩) M M), (12, .slice (some ⟨wt.heap.size, 0, none⟩) wd wd)] a' → w'.heap[wt.heap.size]? = some (.cells (u64s (List.replicate wd 0)) 40 (0, 0)) → Kp [] wt w' → Q .normal a' w') : (apP7 Try.f3).wp Try.prog Q ⟨T287 x, []⟩ wt := by
  have HQ := Lib.hid hQ
  have hmk := make_words wd (by omega)
  clear hQ
  simp only [apP7, bodyOf, Try.f3, codeL, codeR, blockOf, loopOf, Option.getD_some, T287]
  simp only [hx0, hx1, hx2, hx7, hx9, hx10, hx11]
  go_wp2
  exact HQ.out _ _ ⟨rfl, rfl, ⟨rfl, rfl, rfl, rfl, rfl, rfl, rfl, rfl, trivial⟩⟩ (heap_alloc_new wt _) ((Kp.refl _ _).alloc _)

theorem ap_p8 (hx0 : x 0 = .int .u8 wd) (hx1 : x 1 = .slice ao M cl) (hx2 : x 2 = .slice bo K co) (hx7 : x 7 = .pointer (some ⟨pA, 0, none⟩)) (hx9 : x 9 = .slice none 0 0) (hx10 : x 10 = .slice none 0 0) (hx11 : x 11 = .slice (some ⟨bl, 0, none⟩) M M) (hx12 : x 12 = .slice (some ⟨bm, 0, none⟩) wd wd)  (hQ : ∀ a', FrY [(0, .int .u8 wd), (1, .slice ao M cl), (2, .slice bo K co), (7, .pointer (some ⟨pA, 0, none⟩)), (9, .slice none 0 0), (10, .slice none 0 0), (11, .slice (some ⟨bl, 0, none⟩) M M), (12, .slice (some ⟨bm, 0, none⟩) wd wd), (13, .bool true)] a' → Q .normal a' wt) : (apP8 Try.f3).wp Try.prog Q ⟨T287 x, []⟩ wt := by
  have HQ := Lib.hid hQ
  clear hQ
  simp only [apP8, bodyOf, Try.f3, codeL, codeR, blockOf, loopOf, Option.getD_some, T287]
  simp only [hx0, hx1, hx2, hx7, hx9, hx10, hx11, hx12]
  go_wp2
  exact HQ.out _ ⟨rfl, rfl, ⟨rfl, rfl, rfl, rfl, rfl, rfl, rfl, rfl, rfl, trivial⟩⟩

end

section
variable {pl : Nat → Option Place} {W : World} {N : Nat} {Post : Value → World → Prop} {ao bo : Option Addr} {wd M K cl co : Nat} {L : List Pr}

set_option maxHeartbeats 2000000 in
/-- FROM THE ENTRY to the first loop. -/
theorem ap_in (hpl : ∀ i, pl i = none) (hL : Progs W ao L) (hM : M = L.length) (hg : greatB L K = false) (h1 : 1 ≤ wd) (h20 : wd ≤ 20) (hM5 : M ≤ 5)
    (H : ∀ (x : Nat → Value) pA rA bl bm w, HasY x [(0, .int .u8 wd), (1, .slice ao M cl), (2, .slice bo K co), (7, .pointer (some ⟨pA, 0, none⟩)), (9, .slice none 0 0), (10, .slice none 0 0), (11, .slice (some ⟨bl, 0, none⟩) M M), (12, .slice (some ⟨bm, 0, none⟩) wd wd), (13, .bool true)] → InW W w → Ar w pA rA (fresh wd) → w.heap[bl]? = some (.cells (u64s (List.replicate M 0)) 40 (0, 0)) → w.heap[bm]? = some (.cells (u64s (List.replicate wd 0)) 40 (0, 0)) → W.heap.size ≤ rA → W.heap.size ≤ pA → pA < bl → rA < bl → bl < bm → Ks (fun _ => False) W w →
      Win Try.prog Post pl N 0 (gor ((Frame.enter Try.prog 3 #[.int .u8 wd, .slice ao M cl, .slice bo K co] .normal).at ⟨T287 x, []⟩ [.code (apR9 Try.f3)]) []) w) :
    Win Try.prog Post pl N 0 (gor (Frame.enter Try.prog 3 #[.int .u8 wd, .slice ao M cl, .slice bo K co] .normal) []) W := by
  have hb : (Frame.enter Try.prog 3 #[.int .u8 wd, .slice ao M cl, .slice bo K co] .normal).kind = .normal := rfl
  have hbd : Try.f3.body = some (apR0 Try.f3) := by kernel_rfl
  rw [enter_at Try.func3 hbd]
  have e0 : apR0 Try.f3 = .seq (apP0 Try.f3) (apR1 Try.f3) := by kernel_rfl
  have e1 : apR1 Try.f3 = .seq (apP1 Try.f3) (apR2 Try.f3) := by kernel_rfl
  have e2 : apR2 Try.f3 = .seq (apP2 Try.f3) (apR3 Try.f3) := by kernel_rfl
  have e3 : apR3 Try.f3 = .seq (apP3 Try.f3) (apR4 Try.f3) := by kernel_rfl
  have e4 : apR4 Try.f3 = .seq (apP4 Try.f3) (apR5 Try.f3) := by kernel_rfl
  have e5 : apR5 Try.f3 = .seq (apP5 Try.f3) (apR6 Try.f3) := by kernel_rfl
  have e6 : apR6 Try.f3 = .seq (apP6 Try.f3) (apR7 Try.f3) := by kernel_rfl
  have e7 : apR7 Try.f3 = .seq (apP7 Try.f3) (apR8 Try.f3) := by kernel_rfl
  have e8 : apR8 Try.f3 = .seq (apP8 Try.f3) (apR9 Try.f3) := by kernel_rfl
  have hnt : Try.f3.ntmps - (#[.int .u8 wd, .slice ao M cl, .slice bo K co] : Array Value).size = 284 := by kernel_rfl
  rw [hnt]
  clear hnt
  obtain ⟨x, hxe, hx0, hx1, hx2⟩ := three_at (.int .u8 wd) (.slice ao M cl) (.slice bo K co)
  rw [hxe]
  clear hxe
  rw [e0]
  refine Win.seq ?_
  refine piece_stillY hpl (priv_in W) (in_self W) (stok_at rfl rfl (by simp) (by kernel_rfl)) (fun wt Q _ hQ => ap_p0 hx0 hx1 hx2 hQ) fun x1 w1 hx i1 k1 => ?_
  clear hx0 hx1 hx2
  obtain ⟨hx0, hx1, hx2, -⟩ := hx
  rw [e1]
  refine Win.seq ?_
  refine piece_stillY hpl (priv_in W) i1 (stok_at rfl rfl (by simp) (by kernel_rfl)) (fun wt Q iw hQ => ap_p1 hx0 hx1 hx2 (hL.inw iw) hM hg h1 h20 hQ) fun x2 w2 hx i2 k2 => ?_
  clear hx0 hx1 hx2
  obtain ⟨hx0, hx1, hx2, -⟩ := hx
  rw [e2]
  refine Win.seq ?_
  refine piece_newY hpl (priv_in W) i2 (ι := Unit) (own' := fun _ b => b = w2.heap.size + 1 ∨ b = w2.heap.size) (A' := fun _ w => Ar w (w2.heap.size + 1) w2.heap.size (fresh wd)) (fun _ => priv_arY _ _ _) (fun _ y hy => by rcases hy with h | h <;> omega) (K' := fun _ => [(0, .int .u8 wd), (1, .slice ao M cl), (2, .slice bo K co), (7, .pointer (some ⟨w2.heap.size + 1, 0, none⟩)), (8, .int .i64 0)]) (stok_at rfl rfl (by simp) (by kernel_rfl)) (fun wt Q _ hz hQ => ap_p2 hx0 hx1 hx2 h1 h20 fun a' w' hf ha hk => hQ a' () w' (by rw [hz] at hf; exact hf) (by rw [hz] at ha; exact ha) hk) fun x3 _ w3 hx i3 ar3 k3 => ?_
  obtain ⟨pA, hpA⟩ : ∃ pA, pA = w2.heap.size + 1 := ⟨_, rfl⟩
  obtain ⟨rA, hrA⟩ : ∃ rA, rA = w2.heap.size := ⟨_, rfl⟩
  rw [← hpA, ← hrA] at ar3
  rw [← hpA] at hx
  clear hx0 hx1 hx2
  obtain ⟨hx0, hx1, hx2, hx7, hx8, -⟩ := hx
  rw [e3]
  refine Win.seq ?_
  have P3 := (priv_in W).and (priv_arY pA rA (fresh wd))
  refine piece_stillY hpl P3 ⟨i3, ar3⟩ (stok_at rfl rfl (by simp) (by kernel_rfl)) (fun wt Q _ hQ => ap_p3 hx0 hx1 hx2 hx7 hx8 hQ) fun x4 w4 hx i4 k4 => ?_
  clear hx0 hx1 hx2 hx7 hx8
  obtain ⟨hx0, hx1, hx2, hx7, -⟩ := hx
  rw [e4]
  refine Win.seq ?_
  refine piece_stillY hpl P3 i4 (stok_at rfl rfl (by simp) (by kernel_rfl)) (fun wt Q _ hQ => ap_p4 hx0 hx1 hx2 hx7 hQ) fun x5 w5 hx i5 k5 => ?_
  clear hx0 hx1 hx2 hx7
  obtain ⟨hx0, hx1, hx2, hx7, hx9, -⟩ := hx
  rw [e5]
  refine Win.seq ?_
  refine piece_stillY hpl P3 i5 (stok_at rfl rfl (by simp) (by kernel_rfl)) (fun wt Q _ hQ => ap_p5 hx0 hx1 hx2 hx7 hx9 hQ) fun x6 w6 hx i6 k6 => ?_
  clear hx0 hx1 hx2 hx7 hx9
  obtain ⟨hx0, hx1, hx2, hx7, hx9, hx10, -⟩ := hx
  rw [e6]
  refine Win.seq ?_
  refine piece_newY hpl P3 i6 (ι := Unit) (own' := fun _ => (· = w6.heap.size)) (A' := fun _ w => w.heap[w6.heap.size]? = some (.cells (u64s (List.replicate M 0)) 40 (0, 0))) (fun _ => Priv.row _ _ _ _) (fun _ y hy => by have hy' : y = w6.heap.size := hy; omega) (K' := fun _ => [(0, .int .u8 wd), (1, .slice ao M cl), (2, .slice bo K co), (7, .pointer (some ⟨pA, 0, none⟩)), (9, .slice none 0 0), (10, .slice none 0 0), (11, .slice (some ⟨w6.heap.size, 0, none⟩) M M)]) (stok_at rfl rfl (by simp) (by kernel_rfl)) (fun wt Q _ hz hQ => ap_p6 hx0 hx1 hx2 hx7 hx9 hx10 hM5 fun a' w' hf ha hk => hQ a' () w' (by rw [hz] at hf; exact hf) (by rw [hz] at ha; exact ha) hk) fun x7 _ w7 hx i7 rl7 k7 => ?_
  obtain ⟨bl, hbl⟩ : ∃ bl, bl = w6.heap.size := ⟨_, rfl⟩
  rw [← hbl] at hx rl7
  clear hx0 hx1 hx2 hx7 hx9 hx10
  obtain ⟨hx0, hx1, hx2, hx7, hx9, hx10, hx11, -⟩ := hx
  have P7 := P3.and (Priv.row bl (u64s (List.replicate M 0)) 40 (0, 0))
  rw [e7]
  refine Win.seq ?_
  refine piece_newY hpl P7 ⟨i7, rl7⟩ (ι := Unit) (own' := fun _ => (· = w7.heap.size)) (A' := fun _ w => w.heap[w7.heap.size]? = some (.cells (u64s (List.replicate wd 0)) 40 (0, 0))) (fun _ => Priv.row _ _ _ _) (fun _ y hy => by have hy' : y = w7.heap.size := hy; omega) (K' := fun _ => [(0, .int .u8 wd), (1, .slice ao M cl), (2, .slice bo K co), (7, .pointer (some ⟨pA, 0, none⟩)), (9, .slice none 0 0), (10, .slice none 0 0), (11, .slice (some ⟨bl, 0, none⟩) M M), (12, .slice (some ⟨w7.heap.size, 0, none⟩) wd wd)]) (stok_at rfl rfl (by simp) (by kernel_rfl)) (fun wt Q _ hz hQ => ap_p7 hx0 hx1 hx2 hx7 hx9 hx10 hx11 h20 fun a' w' hf ha hk => hQ a' () w' (by rw [hz] at hf; exact hf) (by rw [hz] at ha; exact ha) hk) fun x8 _ w8 hx i8 rm8 k8 => ?_
  obtain ⟨bm, hbm⟩ : ∃ bm, bm = w7.heap.size := ⟨_, rfl⟩
  rw [← hbm] at hx rm8
  clear hx0 hx1 hx2 hx7 hx9 hx10 hx11
  obtain ⟨hx0, hx1, hx2, hx7, hx9, hx10, hx11, hx12, -⟩ := hx
  have P8 := P7.and (Priv.row bm (u64s (List.replicate wd 0)) 40 (0, 0))
  rw [e8]
  refine Win.seq ?_
  refine piece_stillY hpl P8 ⟨i8, rm8⟩ (stok_at rfl rfl (by simp) (by kernel_rfl)) (fun wt Q _ hQ => ap_p8 hx0 hx1 hx2 hx7 hx9 hx10 hx11 hx12 hQ) fun x9 w9 hx i9 k9 => ?_
  have z1 := k1.size
  have z2 := k2.size
  have z3 := k3.size
  have z4 := k4.size
  have z5 := k5.size
  have z6 := k6.size
  have z7 := k7.size
  have lt3 := ar3.lt
  have lt7 := lt_of_block rl7
  exact H x9 pA rA bl bm w9 hx i9.1.1.1 i9.1.1.2 i9.1.2 i9.2 (by omega) (by omega) (by omega) (by omega) (by omega) ((((((((k1.trans k2).trans k3).trans k4).trans k5).trans k6).trans k7).trans k8).trans k9)
end

section
variable {pl : Nat → Option Place} {W : World} {N : Nat} {Post : Value → World → Prop} {ao bo : Option Addr} {wd M K cl co : Nat} {L : List Pr}

set_option maxHeartbeats 4000000 in
theorem ap_bad_great (hpl : ∀ i, pl i = none) (hn : 0 < N) (hL : Progs W ao L) (hM : M = L.length) (hg : greatB L K = true) (H : ∀ w', Ks (fun _ => False) W w' → Post (.bool true) w') :
    Win Try.prog Post pl N 0 (gor (Frame.enter Try.prog 3 #[.int .u8 wd, .slice ao M cl, .slice bo K co] .normal) []) W := by
  subst hM
  have hb : (Frame.enter Try.prog 3 #[.int .u8 wd, .slice ao L.length cl, .slice bo K co] .normal).kind = .normal := rfl
  rw [enter_at Try.func3 rfl]
  simp only [Try.ntmps3, List.size_toArray, List.length_cons, List.length_nil, Nat.reduceAdd, Nat.reduceSub, Array.replicate_succ, Array.replicate_zero, List.push_toArray, List.append_toArray, List.nil_append, List.cons_append]
  refine Win.seq ?_
  refine Win.region ?_
  simp only [List.size_toArray, List.length_cons, List.length_nil, Nat.reduceAdd, List.range, List.range.loop]
  refine Win.pureOp (v := .bool false) (.inl hb) rfl rfl (fun w => rfl) ?_
  simp only [Act.put, Act.eval, gqA, gqZ, gqS, Option.bind_some, gtA, gtZ, gtS, siA, scS, scZ]
  refine Win.opsEnd ?_
  refine Win.seq ?_
  refine Win.seq ?_
  refine Win.region ?_
  simp only [List.size_toArray, List.length_cons, List.length_nil, Nat.reduceAdd, List.range, List.range.loop]
  refine Win.pureOp (v := .slice ao L.length cl) (.inl hb) rfl rfl (fun w => by rw [Sem.runT_eq]; simp [go_sem, execOp, Act.eval]; try (first | omega | rfl | exact ⟨rfl, rfl⟩ | kernel_rfl)) ?_
  simp only [Act.put, Act.eval, gqA, gqZ, gqS, Option.bind_some, gtA, gtZ, gtS, siA, scS, scZ]
  refine Win.pureOp (v := .slice bo K co) (.inl hb) rfl rfl (fun w => by rw [Sem.runT_eq]; simp [go_sem, execOp, Act.eval]; try (first | omega | rfl | exact ⟨rfl, rfl⟩ | kernel_rfl)) ?_
  simp only [Act.put, Act.eval, gqA, gqZ, gqS, Option.bind_some, gtA, gtZ, gtS, siA, scS, scZ]
  refine Win.enter (f := 8) (args := #[.slice ao L.length cl, .slice bo K co]) (.inl hb) rfl rfl (fun d => ⟨#[], call_enter mild.toMild Try.func8 rfl rfl rfl rfl _ _ (by simp [Act.eval]), fun e he => by simp at he⟩) ?_
  refine Win.calls mild (lies_none hpl W) (stok_at rfl rfl (by simp) (by kernel_rfl)) (R := fun e w' => e = .returned (.bool true) ∧ Ks (fun _ => False) ((lies_none hpl W).veil.world (fun _ _ => 0) 0 W) w') (fun τ => (great_is _ ao bo L cl K co (hL.inw ((priv_in W).st _ _ (in_self W) fun b hb => (lies_none hpl W).same W rfl ((priv_in W).np _ _ (in_self W) hb)))).mono (by rintro e w' ⟨h1, rfl⟩; exact ⟨by rw [h1, hg], ks_twin0 (Ks.refl _ _)⟩)) (fun e w' h => ⟨_, h.1⟩) ?_
  intro v' w2 τ Dd hok' hVOK hVK hR
  obtain ⟨hv, hku⟩ := hR
  obtain rfl : v' = .bool true := by simpa using hv
  have ks2 := ks_of_twin (lies_none hpl W) hVOK hVK hku
  clear hv hku hok' hVOK hVK
  rw [Frame.finish_at]
  simp only [Act.put, Act.eval, gqA, gqZ, gqS, Option.bind_some, gtA, gtZ, gtS, siA, scS, scZ]
  refine Win.pureOp (v := .bool true) (.inl hb) rfl rfl (fun w => by rw [Sem.runT_eq]; simp [go_sem, execOp, Act.eval]; try (first | omega | rfl | exact ⟨rfl, rfl⟩ | kernel_rfl)) ?_
  simp only [Act.put, Act.eval, gqA, gqZ, gqS, Option.bind_some, gtA, gtZ, gtS, siA, scS, scZ]
  refine Win.opSkip rfl rfl ?_
  simp only [Act.put, Act.eval, gqA, gqZ, gqS, Option.bind_some, gtA, gtZ, gtS, siA, scS, scZ]
  refine Win.opSkip rfl rfl ?_
  simp only [Act.put, Act.eval, gqA, gqZ, gqS, Option.bind_some, gtA, gtZ, gtS, siA, scS, scZ]
  refine Win.pureOp (v := .bool true) (.inl hb) rfl rfl (fun w => by rw [Sem.runT_eq]; simp [go_sem, execOp, Act.eval]; try (first | omega | rfl | exact ⟨rfl, rfl⟩ | kernel_rfl)) ?_
  simp only [Act.put, Act.eval, gqA, gqZ, gqS, Option.bind_some, gtA, gtZ, gtS, siA, scS, scZ]
  refine Win.pureOp (v := .bool true) (.inl hb) rfl rfl (fun w => by rw [Sem.runT_eq]; simp [go_sem, execOp, Act.eval]; try (first | omega | rfl | exact ⟨rfl, rfl⟩ | kernel_rfl)) ?_
  simp only [Act.put, Act.eval, gqA, gqZ, gqS, Option.bind_some, gtA, gtZ, gtS, siA, scS, scZ]
  refine Win.opSkip rfl rfl ?_
  simp only [Act.put, Act.eval, gqA, gqZ, gqS, Option.bind_some, gtA, gtZ, gtS, siA, scS, scZ]
  refine Win.opSkip rfl rfl ?_
  simp only [Act.put, Act.eval, gqA, gqZ, gqS, Option.bind_some, gtA, gtZ, gtS, siA, scS, scZ]
  refine Win.pureOp (v := .bool true) (.inl hb) rfl rfl (fun w => by rw [Sem.runT_eq]; simp [go_sem, execOp, Act.eval]; try (first | omega | rfl | exact ⟨rfl, rfl⟩ | kernel_rfl)) ?_
  simp only [Act.put, Act.eval, gqA, gqZ, gqS, Option.bind_some, gtA, gtZ, gtS, siA, scS, scZ]
  refine Win.opsEnd ?_
  refine Win.cond (t := true) rfl ?_
  simp only [if_true, if_false, Bool.false_eq_true]
  refine Win.seq ?_
  refine Win.region ?_
  simp only [List.size_toArray, List.length_cons, List.length_nil, Nat.reduceAdd, List.range, List.range.loop]
  refine Win.enter (f := 9) (args := #[]) (.inl hb) rfl rfl (fun d => ⟨#[], call_enter mild.toMild Try.func9 rfl rfl rfl rfl _ _ (by simp [Act.eval]), fun e he => by simp at he⟩) ?_
  refine wakes_goes hpl hn fun pl' n' w9 hpl' hn' k9 => ?_
  rw [Frame.finish_at]
  simp only [Act.put, Act.eval, gqA, gqZ, gqS, Option.bind_some, gtA, gtZ, gtS, siA, scS, scZ]
  refine Win.pureOp (v := .bool true) (.inl hb) rfl rfl (fun w => by rw [Sem.runT_eq]; simp [go_sem, execOp, Act.eval]; try (first | omega | rfl | exact ⟨rfl, rfl⟩ | kernel_rfl)) ?_
  simp only [Act.put, Act.eval, gqA, gqZ, gqS, Option.bind_some, gtA, gtZ, gtS, siA, scS, scZ]
  refine Win.opsEnd ?_
  refine Win.ret ?_
  refine Win.done hpl' rfl fun d => ?_
  refine ⟨.bool true, #[], ?_, fun e he => by simp at he, H _ ((ks2.trans k9).at d)⟩
  exact stepG_done rfl rfl rfl Try.func3 (by kernel_rfl) (fun w => by rw [Sem.runT_eq]; simp [go_sem, results, Try.f3, Frame.at]) _

set_option maxHeartbeats 4000000 in
theorem ap_bad_low (hpl : ∀ i, pl i = none) (hn : 0 < N) (hL : Progs W ao L) (hM : M = L.length) (hg : greatB L K = false) (hw : wd < 1) (H : ∀ w', Ks (fun _ => False) W w' → Post (.bool true) w') :
    Win Try.prog Post pl N 0 (gor (Frame.enter Try.prog 3 #[.int .u8 wd, .slice ao M cl, .slice bo K co] .normal) []) W := by
  subst hM
  have hb : (Frame.enter Try.prog 3 #[.int .u8 wd, .slice ao L.length cl, .slice bo K co] .normal).kind = .normal := rfl
  rw [enter_at Try.func3 rfl]
  simp only [Try.ntmps3, List.size_toArray, List.length_cons, List.length_nil, Nat.reduceAdd, Nat.reduceSub, Array.replicate_succ, Array.replicate_zero, List.push_toArray, List.append_toArray, List.nil_append, List.cons_append]
  refine Win.seq ?_
  refine Win.region ?_
  simp only [List.size_toArray, List.length_cons, List.length_nil, Nat.reduceAdd, List.range, List.range.loop]
  refine Win.pureOp (v := .bool false) (.inl hb) rfl rfl (fun w => rfl) ?_
  simp only [Act.put, Act.eval, gqA, gqZ, gqS, Option.bind_some, gtA, gtZ, gtS, siA, scS, scZ]
  refine Win.opsEnd ?_
  refine Win.seq ?_
  refine Win.seq ?_
  refine Win.region ?_
  simp only [List.size_toArray, List.length_cons, List.length_nil, Nat.reduceAdd, List.range, List.range.loop]
  refine Win.pureOp (v := .slice ao L.length cl) (.inl hb) rfl rfl (fun w => by rw [Sem.runT_eq]; simp [go_sem, execOp, Act.eval]; try (first | omega | rfl | exact ⟨rfl, rfl⟩ | kernel_rfl)) ?_
  simp only [Act.put, Act.eval, gqA, gqZ, gqS, Option.bind_some, gtA, gtZ, gtS, siA, scS, scZ]
  refine Win.pureOp (v := .slice bo K co) (.inl hb) rfl rfl (fun w => by rw [Sem.runT_eq]; simp [go_sem, execOp, Act.eval]; try (first | omega | rfl | exact ⟨rfl, rfl⟩ | kernel_rfl)) ?_
  simp only [Act.put, Act.eval, gqA, gqZ, gqS, Option.bind_some, gtA, gtZ, gtS, siA, scS, scZ]
  refine Win.enter (f := 8) (args := #[.slice ao L.length cl, .slice bo K co]) (.inl hb) rfl rfl (fun d => ⟨#[], call_enter mild.toMild Try.func8 rfl rfl rfl rfl _ _ (by simp [Act.eval]), fun e he => by simp at he⟩) ?_
  refine Win.calls mild (lies_none hpl W) (stok_at rfl rfl (by simp) (by kernel_rfl)) (R := fun e w' => e = .returned (.bool false) ∧ Ks (fun _ => False) ((lies_none hpl W).veil.world (fun _ _ => 0) 0 W) w') (fun τ => (great_is _ ao bo L cl K co (hL.inw ((priv_in W).st _ _ (in_self W) fun b hb => (lies_none hpl W).same W rfl ((priv_in W).np _ _ (in_self W) hb)))).mono (by rintro e w' ⟨h1, rfl⟩; exact ⟨by rw [h1, hg], ks_twin0 (Ks.refl _ _)⟩)) (fun e w' h => ⟨_, h.1⟩) ?_
  intro v' w2 τ Dd hok' hVOK hVK hR
  obtain ⟨hv, hku⟩ := hR
  obtain rfl : v' = .bool false := by simpa using hv
  have ks2 := ks_of_twin (lies_none hpl W) hVOK hVK hku
  clear hv hku hok' hVOK hVK
  rw [Frame.finish_at]
  simp only [Act.put, Act.eval, gqA, gqZ, gqS, Option.bind_some, gtA, gtZ, gtS, siA, scS, scZ]
  refine Win.pureOp (v := .bool false) (.inl hb) rfl rfl (fun w => by rw [Sem.runT_eq]; simp [go_sem, execOp, Act.eval]; try (first | omega | rfl | exact ⟨rfl, rfl⟩ | kernel_rfl)) ?_
  simp only [Act.put, Act.eval, gqA, gqZ, gqS, Option.bind_some, gtA, gtZ, gtS, siA, scS, scZ]
  refine Win.pureOp (v := .int .u8 wd) (.inl hb) rfl rfl (fun w => by rw [Sem.runT_eq]; simp [go_sem, execOp, Act.eval]; try (first | omega | rfl | exact ⟨rfl, rfl⟩ | kernel_rfl)) ?_
  simp only [Act.put, Act.eval, gqA, gqZ, gqS, Option.bind_some, gtA, gtZ, gtS, siA, scS, scZ]
  refine Win.pureOp (v := .bool true) (.inl hb) rfl rfl (fun w => by rw [Sem.runT_eq]; simp [go_sem, execOp, Act.eval]; try (first | omega | rfl | exact ⟨rfl, rfl⟩ | kernel_rfl)) ?_
  simp only [Act.put, Act.eval, gqA, gqZ, gqS, Option.bind_some, gtA, gtZ, gtS, siA, scS, scZ]
  refine Win.pureOp (v := .bool true) (.inl hb) rfl rfl (fun w => by rw [Sem.runT_eq]; simp [go_sem, execOp, Act.eval]; try (first | omega | rfl | exact ⟨rfl, rfl⟩ | kernel_rfl)) ?_
  simp only [Act.put, Act.eval, gqA, gqZ, gqS, Option.bind_some, gtA, gtZ, gtS, siA, scS, scZ]
  refine Win.pureOp (v := .bool true) (.inl hb) rfl rfl (fun w => by rw [Sem.runT_eq]; simp [go_sem, execOp, Act.eval]; try (first | omega | rfl | exact ⟨rfl, rfl⟩ | kernel_rfl)) ?_
  simp only [Act.put, Act.eval, gqA, gqZ, gqS, Option.bind_some, gtA, gtZ, gtS, siA, scS, scZ]
  refine Win.opSkip rfl rfl ?_
  simp only [Act.put, Act.eval, gqA, gqZ, gqS, Option.bind_some, gtA, gtZ, gtS, siA, scS, scZ]
  refine Win.opSkip rfl rfl ?_
  simp only [Act.put, Act.eval, gqA, gqZ, gqS, Option.bind_some, gtA, gtZ, gtS, siA, scS, scZ]
  refine Win.pureOp (v := .bool true) (.inl hb) rfl rfl (fun w => by rw [Sem.runT_eq]; simp [go_sem, execOp, Act.eval]; try (first | omega | rfl | exact ⟨rfl, rfl⟩ | kernel_rfl)) ?_
  simp only [Act.put, Act.eval, gqA, gqZ, gqS, Option.bind_some, gtA, gtZ, gtS, siA, scS, scZ]
  refine Win.opsEnd ?_
  refine Win.cond (t := true) rfl ?_
  simp only [if_true, if_false, Bool.false_eq_true]
  refine Win.seq ?_
  refine Win.region ?_
  simp only [List.size_toArray, List.length_cons, List.length_nil, Nat.reduceAdd, List.range, List.range.loop]
  refine Win.enter (f := 9) (args := #[]) (.inl hb) rfl rfl (fun d => ⟨#[], call_enter mild.toMild Try.func9 rfl rfl rfl rfl _ _ (by simp [Act.eval]), fun e he => by simp at he⟩) ?_
  refine wakes_goes hpl hn fun pl' n' w9 hpl' hn' k9 => ?_
  rw [Frame.finish_at]
  simp only [Act.put, Act.eval, gqA, gqZ, gqS, Option.bind_some, gtA, gtZ, gtS, siA, scS, scZ]
  refine Win.pureOp (v := .bool true) (.inl hb) rfl rfl (fun w => by rw [Sem.runT_eq]; simp [go_sem, execOp, Act.eval]; try (first | omega | rfl | exact ⟨rfl, rfl⟩ | kernel_rfl)) ?_
  simp only [Act.put, Act.eval, gqA, gqZ, gqS, Option.bind_some, gtA, gtZ, gtS, siA, scS, scZ]
  refine Win.opsEnd ?_
  refine Win.ret ?_
  refine Win.done hpl' rfl fun d => ?_
  refine ⟨.bool true, #[], ?_, fun e he => by simp at he, H _ ((ks2.trans k9).at d)⟩
  exact stepG_done rfl rfl rfl Try.func3 (by kernel_rfl) (fun w => by rw [Sem.runT_eq]; simp [go_sem, results, Try.f3, Frame.at]) _

set_option maxHeartbeats 4000000 in
theorem ap_bad_high (hpl : ∀ i, pl i = none) (hn : 0 < N) (hL : Progs W ao L) (hM : M = L.length) (hg : greatB L K = false) (hw0 : ¬ wd < 1) (hw : 20 < wd) (H : ∀ w', Ks (fun _ => False) W w' → Post (.bool true) w') :
    Win Try.prog Post pl N 0 (gor (Frame.enter Try.prog 3 #[.int .u8 wd, .slice ao M cl, .slice bo K co] .normal) []) W := by
  subst hM
  have hb : (Frame.enter Try.prog 3 #[.int .u8 wd, .slice ao L.length cl, .slice bo K co] .normal).kind = .normal := rfl
  rw [enter_at Try.func3 rfl]
  simp only [Try.ntmps3, List.size_toArray, List.length_cons, List.length_nil, Nat.reduceAdd, Nat.reduceSub, Array.replicate_succ, Array.replicate_zero, List.push_toArray, List.append_toArray, List.nil_append, List.cons_append]
  refine Win.seq ?_
  refine Win.region ?_
  simp only [List.size_toArray, List.length_cons, List.length_nil, Nat.reduceAdd, List.range, List.range.loop]
  refine Win.pureOp (v := .bool false) (.inl hb) rfl rfl (fun w => rfl) ?_
  simp only [Act.put, Act.eval, gqA, gqZ, gqS, Option.bind_some, gtA, gtZ, gtS, siA, scS, scZ]
  refine Win.opsEnd ?_
  refine Win.seq ?_
  refine Win.seq ?_
  refine Win.region ?_
  simp only [List.size_toArray, List.length_cons, List.length_nil, Nat.reduceAdd, List.range, List.range.loop]
  refine Win.pureOp (v := .slice ao L.length cl) (.inl hb) rfl rfl (fun w => by rw [Sem.runT_eq]; simp [go_sem, execOp, Act.eval]; try (first | omega | rfl | exact ⟨rfl, rfl⟩ | kernel_rfl)) ?_
  simp only [Act.put, Act.eval, gqA, gqZ, gqS, Option.bind_some, gtA, gtZ, gtS, siA, scS, scZ]
  refine Win.pureOp (v := .slice bo K co) (.inl hb) rfl rfl (fun w => by rw [Sem.runT_eq]; simp [go_sem, execOp, Act.eval]; try (first | omega | rfl | exact ⟨rfl, rfl⟩ | kernel_rfl)) ?_
  simp only [Act.put, Act.eval, gqA, gqZ, gqS, Option.bind_some, gtA, gtZ, gtS, siA, scS, scZ]
  refine Win.enter (f := 8) (args := #[.slice ao L.length cl, .slice bo K co]) (.inl hb) rfl rfl (fun d => ⟨#[], call_enter mild.toMild Try.func8 rfl rfl rfl rfl _ _ (by simp [Act.eval]), fun e he => by simp at he⟩) ?_
  refine Win.calls mild (lies_none hpl W) (stok_at rfl rfl (by simp) (by kernel_rfl)) (R := fun e w' => e = .returned (.bool false) ∧ Ks (fun _ => False) ((lies_none hpl W).veil.world (fun _ _ => 0) 0 W) w') (fun τ => (great_is _ ao bo L cl K co (hL.inw ((priv_in W).st _ _ (in_self W) fun b hb => (lies_none hpl W).same W rfl ((priv_in W).np _ _ (in_self W) hb)))).mono (by rintro e w' ⟨h1, rfl⟩; exact ⟨by rw [h1, hg], ks_twin0 (Ks.refl _ _)⟩)) (fun e w' h => ⟨_, h.1⟩) ?_
  intro v' w2 τ Dd hok' hVOK hVK hR
  obtain ⟨hv, hku⟩ := hR
  obtain rfl : v' = .bool false := by simpa using hv
  have ks2 := ks_of_twin (lies_none hpl W) hVOK hVK hku
  clear hv hku hok' hVOK hVK
  rw [Frame.finish_at]
  simp only [Act.put, Act.eval, gqA, gqZ, gqS, Option.bind_some, gtA, gtZ, gtS, siA, scS, scZ]
  refine Win.pureOp (v := .bool false) (.inl hb) rfl rfl (fun w => by rw [Sem.runT_eq]; simp [go_sem, execOp, Act.eval]; try (first | omega | rfl | exact ⟨rfl, rfl⟩ | kernel_rfl)) ?_
  simp only [Act.put, Act.eval, gqA, gqZ, gqS, Option.bind_some, gtA, gtZ, gtS, siA, scS, scZ]
  refine Win.pureOp (v := .int .u8 wd) (.inl hb) rfl rfl (fun w => by rw [Sem.runT_eq]; simp [go_sem, execOp, Act.eval]; try (first | omega | rfl | exact ⟨rfl, rfl⟩ | kernel_rfl)) ?_
  simp only [Act.put, Act.eval, gqA, gqZ, gqS, Option.bind_some, gtA, gtZ, gtS, siA, scS, scZ]
  refine Win.pureOp (v := .bool false) (.inl hb) rfl rfl (fun w => by rw [Sem.runT_eq]; simp [go_sem, execOp, Act.eval]; try (first | omega | rfl | exact ⟨rfl, rfl⟩ | kernel_rfl)) ?_
  simp only [Act.put, Act.eval, gqA, gqZ, gqS, Option.bind_some, gtA, gtZ, gtS, siA, scS, scZ]
  refine Win.pureOp (v := .bool false) (.inl hb) rfl rfl (fun w => by rw [Sem.runT_eq]; simp [go_sem, execOp, Act.eval]; try (first | omega | rfl | exact ⟨rfl, rfl⟩ | kernel_rfl)) ?_
  simp only [Act.put, Act.eval, gqA, gqZ, gqS, Option.bind_some, gtA, gtZ, gtS, siA, scS, scZ]
  refine Win.pureOp (v := .bool false) (.inl hb) rfl rfl (fun w => by rw [Sem.runT_eq]; simp [go_sem, execOp, Act.eval]; try (first | omega | rfl | exact ⟨rfl, rfl⟩ | kernel_rfl)) ?_
  simp only [Act.put, Act.eval, gqA, gqZ, gqS, Option.bind_some, gtA, gtZ, gtS, siA, scS, scZ]
  refine Win.pureOp (v := .int .u8 wd) (.inl hb) rfl rfl (fun w => by rw [Sem.runT_eq]; simp [go_sem, execOp, Act.eval]; try (first | omega | rfl | exact ⟨rfl, rfl⟩ | kernel_rfl)) ?_
  simp only [Act.put, Act.eval, gqA, gqZ, gqS, Option.bind_some, gtA, gtZ, gtS, siA, scS, scZ]
  refine Win.pureOp (v := .bool true) (.inl hb) rfl rfl (fun w => by rw [Sem.runT_eq]; simp [go_sem, execOp, Act.eval]; try (first | omega | rfl | exact ⟨rfl, rfl⟩ | kernel_rfl)) ?_
  simp only [Act.put, Act.eval, gqA, gqZ, gqS, Option.bind_some, gtA, gtZ, gtS, siA, scS, scZ]
  refine Win.pureOp (v := .bool true) (.inl hb) rfl rfl (fun w => by rw [Sem.runT_eq]; simp [go_sem, execOp, Act.eval]; try (first | omega | rfl | exact ⟨rfl, rfl⟩ | kernel_rfl)) ?_
  simp only [Act.put, Act.eval, gqA, gqZ, gqS, Option.bind_some, gtA, gtZ, gtS, siA, scS, scZ]
  refine Win.opsEnd ?_
  refine Win.cond (t := true) rfl ?_
  simp only [if_true, if_false, Bool.false_eq_true]
  refine Win.seq ?_
  refine Win.region ?_
  simp only [List.size_toArray, List.length_cons, List.length_nil, Nat.reduceAdd, List.range, List.range.loop]
  refine Win.enter (f := 9) (args := #[]) (.inl hb) rfl rfl (fun d => ⟨#[], call_enter mild.toMild Try.func9 rfl rfl rfl rfl _ _ (by simp [Act.eval]), fun e he => by simp at he⟩) ?_
  refine wakes_goes hpl hn fun pl' n' w9 hpl' hn' k9 => ?_
  rw [Frame.finish_at]
  simp only [Act.put, Act.eval, gqA, gqZ, gqS, Option.bind_some, gtA, gtZ, gtS, siA, scS, scZ]
  refine Win.pureOp (v := .bool true) (.inl hb) rfl rfl (fun w => by rw [Sem.runT_eq]; simp [go_sem, execOp, Act.eval]; try (first | omega | rfl | exact ⟨rfl, rfl⟩ | kernel_rfl)) ?_
  simp only [Act.put, Act.eval, gqA, gqZ, gqS, Option.bind_some, gtA, gtZ, gtS, siA, scS, scZ]
  refine Win.opsEnd ?_
  refine Win.ret ?_
  refine Win.done hpl' rfl fun d => ?_
  refine ⟨.bool true, #[], ?_, fun e he => by simp at he, H _ ((ks2.trans k9).at d)⟩
  exact stepG_done rfl rfl rfl Try.func3 (by kernel_rfl) (fun w => by rw [Sem.runT_eq]; simp [go_sem, results, Try.f3, Frame.at]) _
end
end Go.Proofs.Ytnbibpmhmffmpaa

namespace Go.Proofs.Ytnbibpmhmffmpaa
set_option linter.unusedVariables false
set_option linter.unusedSimpArgs false
set_option maxRecDepth 100000
open Go.RowKit

def apX1 (f : Func) : Code := loopOf (blockOf (codeR (codeL (apR9 f))))
def apB1 (f : Func) : Code := blockOf (codeL (codeR (apX1 f)))
def apK1 (f : Func) : List Item := [.inLoop (apX1 f), .inBlock 0, .code (apR10 f)]
def apQ11 (f : Func) : Code := codeL (codeL (apR9 f))
def apQ12 (f : Func) : Code := codeL (apX1 f)
def apQ13 (f : Func) : Code := codeR (codeR (apX1 f))
def apQ14 (f : Func) : Code := codeL (apB1 f)
def apQ15 (f : Func) : Code := codeL (codeR (apB1 f))
def apQ16 (f : Func) : Code := codeL (codeR (codeR (apB1 f)))
def apQ17 (f : Func) : Code := codeR (codeR (codeR (apB1 f)))
theorem info_agentY : ∃ i z, Try.prog.info? 33 = some i ∧ i.zero = some z ∧ i.size = 1 ∧ i.bytes = 8 ∧ z.cells.size = 1 := by
  obtain ⟨i, hi, hz0, hz1, hz2⟩ := info_parts (P := Try.prog) (e := 33) (z := .pointer none) (size := 1) (bytes := 8) (by kernel_rfl)
  exact ⟨i, _, hi, hz0, hz1, hz2, rfl⟩
theorem info_prog : ∃ i z, Try.prog.info? 42 = some i ∧ i.zero = some z ∧ i.size = 3 ∧ i.bytes = 40 ∧ z.cells.size = 3 := by
  obtain ⟨i, hi, hz0, hz1, hz2⟩ := info_parts (P := Try.prog) (e := 42) (z := .agg #[.slice none 0 0, .int .i64 0, .int .u64 0]) (size := 3) (bytes := 40) (by kernel_rfl)
  exact ⟨i, _, hi, hz0, hz1, hz2, rfl⟩
section
variable {x : Nat → Value} {wt : World} {Q : Exit → Act → World → Prop} {ao bo : Option Addr} {wd M K cl co pA bl bm i pg : Nat} {va vw : Value}
theorem ap_q11 (hx0 : x 0 = .int .u8 wd) (hx1 : x 1 = .slice ao M cl) (hx2 : x 2 = .slice bo K co) (hx7 : x 7 = .pointer (some ⟨pA, 0, none⟩)) (hx9 : x 9 = va) (hx10 : x 10 = vw) (hx11 : x 11 = .slice (some ⟨bl, 0, none⟩) M M) (hx12 : x 12 = .slice (some ⟨bm, 0, none⟩) wd wd) (hx13 : x 13 = .bool true)  (hQ : ∀ a', FrY [(0, .int .u8 wd), (1, .slice ao M cl), (2, .slice bo K co), (7, .pointer (some ⟨pA, 0, none⟩)), (9, va), (10, vw), (11, .slice (some ⟨bl, 0, none⟩) M M), (12, .slice (some ⟨bm, 0, none⟩) wd wd), (13, .bool true), (14, .int .i64 0)] a' → Q (.normal) a' wt) : (apQ11 Try.f3).wp Try.prog Q ⟨T287 x, []⟩ wt := by
  have HQ := Lib.hid hQ
  clear hQ
  simp only [apQ11, apB1, apX1, apR9, bodyOf, Try.f3, codeL, codeR, blockOf, loopOf, Option.getD_some, T287]
  simp only [hx0, hx1, hx2, hx7, hx9, hx10, hx11, hx12, hx13]
  go_wp2
  exact HQ.out _ ⟨rfl, rfl, ⟨rfl, rfl, rfl, rfl, rfl, rfl, rfl, rfl, rfl, rfl, trivial⟩⟩

theorem ap_q12 (hx0 : x 0 = .int .u8 wd) (hx1 : x 1 = .slice ao M cl) (hx2 : x 2 = .slice bo K co) (hx7 : x 7 = .pointer (some ⟨pA, 0, none⟩)) (hx9 : x 9 = va) (hx10 : x 10 = vw) (hx11 : x 11 = .slice (some ⟨bl, 0, none⟩) M M) (hx12 : x 12 = .slice (some ⟨bm, 0, none⟩) wd wd) (hx13 : x 13 = .bool true) (hx14 : x 14 = .int .i64 i) (hi : i < M) (hM5 : M ≤ 5) (hQ : ∀ a', FrY [(0, .int .u8 wd), (1, .slice ao M cl), (2, .slice bo K co), (7, .pointer (some ⟨pA, 0, none⟩)), (9, va), (10, vw), (11, .slice (some ⟨bl, 0, none⟩) M M), (12, .slice (some ⟨bm, 0, none⟩) wd wd), (13, .bool true), (14, .int .i64 i)] a' → Q (.normal) a' wt) : (apQ12 Try.f3).wp Try.prog Q ⟨T287 x, []⟩ wt := by
  have HQ := Lib.hid hQ
  clear hQ
  simp only [apQ12, apB1, apX1, apR9, bodyOf, Try.f3, codeL, codeR, blockOf, loopOf, Option.getD_some, T287]
  simp only [hx0, hx1, hx2, hx7, hx9, hx10, hx11, hx12, hx13, hx14]
  go_wp2
  exact HQ.out _ ⟨rfl, rfl, ⟨rfl, rfl, rfl, rfl, rfl, rfl, rfl, rfl, rfl, rfl, trivial⟩⟩

theorem ap_q12_end (hx0 : x 0 = .int .u8 wd) (hx1 : x 1 = .slice ao M cl) (hx2 : x 2 = .slice bo K co) (hx7 : x 7 = .pointer (some ⟨pA, 0, none⟩)) (hx9 : x 9 = va) (hx10 : x 10 = vw) (hx11 : x 11 = .slice (some ⟨bl, 0, none⟩) M M) (hx12 : x 12 = .slice (some ⟨bm, 0, none⟩) wd wd) (hx13 : x 13 = .bool true) (hx14 : x 14 = .int .i64 i) (hi : i = M) (hM5 : M ≤ 5) (hQ : ∀ a', FrY [(0, .int .u8 wd), (1, .slice ao M cl), (2, .slice bo K co), (7, .pointer (some ⟨pA, 0, none⟩)), (9, va), (10, vw), (11, .slice (some ⟨bl, 0, none⟩) M M), (12, .slice (some ⟨bm, 0, none⟩) wd wd), (13, .bool true), (14, .int .i64 i)] a' → Q (.exit 0) a' wt) : (apQ12 Try.f3).wp Try.prog Q ⟨T287 x, []⟩ wt := by
  have HQ := Lib.hid hQ
  clear hQ
  simp only [apQ12, apB1, apX1, apR9, bodyOf, Try.f3, codeL, codeR, blockOf, loopOf, Option.getD_some, T287]
  simp only [hx0, hx1, hx2, hx7, hx9, hx10, hx11, hx12, hx13, hx14]
  go_wp2
  exact HQ.out _ ⟨rfl, rfl, ⟨rfl, rfl, rfl, rfl, rfl, rfl, rfl, rfl, rfl, rfl, trivial⟩⟩

theorem ap_q13 (hx0 : x 0 = .int .u8 wd) (hx1 : x 1 = .slice ao M cl) (hx2 : x 2 = .slice bo K co) (hx7 : x 7 = .pointer (some ⟨pA, 0, none⟩)) (hx9 : x 9 = va) (hx10 : x 10 = vw) (hx11 : x 11 = .slice (some ⟨bl, 0, none⟩) M M) (hx12 : x 12 = .slice (some ⟨bm, 0, none⟩) wd wd) (hx13 : x 13 = .bool true) (hx14 : x 14 = .int .i64 i) (hi : i < M) (hM5 : M ≤ 5) (hQ : ∀ a', FrY [(0, .int .u8 wd), (1, .slice ao M cl), (2, .slice bo K co), (7, .pointer (some ⟨pA, 0, none⟩)), (9, va), (10, vw), (11, .slice (some ⟨bl, 0, none⟩) M M), (12, .slice (some ⟨bm, 0, none⟩) wd wd), (13, .bool true), (14, .int .i64 ((i + 1 : Nat) : Int))] a' → Q (.normal) a' wt) : (apQ13 Try.f3).wp Try.prog Q ⟨T287 x, []⟩ wt := by
  have HQ := Lib.hid hQ
  clear hQ
  have hw := wrap_small (i := i) (by omega)
  simp only [apQ13, apB1, apX1, apR9, bodyOf, Try.f3, codeL, codeR, blockOf, loopOf, Option.getD_some, T287]
  simp only [hx0, hx1, hx2, hx7, hx9, hx10, hx11, hx12, hx13, hx14]
  go_wp2
  exact HQ.out _ ⟨rfl, rfl, ⟨rfl, rfl, rfl, rfl, rfl, rfl, rfl, rfl, rfl, rfl, trivial⟩⟩

theorem ap_q15 (hx0 : x 0 = .int .u8 wd) (hx1 : x 1 = .slice ao M cl) (hx2 : x 2 = .slice bo K co) (hx7 : x 7 = .pointer (some ⟨pA, 0, none⟩)) (hx9 : x 9 = va) (hx10 : x 10 = vw) (hx11 : x 11 = .slice (some ⟨bl, 0, none⟩) M M) (hx12 : x 12 = .slice (some ⟨bm, 0, none⟩) wd wd) (hx13 : x 13 = .bool true) (hx14 : x 14 = .int .i64 i) (hx15 : x 15 = .pointer (some ⟨pg, 0, none⟩)) (hx16 : x 16 = .int .i64 0)  (hQ : ∀ a', FrY [(0, .int .u8 wd), (1, .slice ao M cl), (2, .slice bo K co), (7, .pointer (some ⟨pA, 0, none⟩)), (9, va), (10, vw), (11, .slice (some ⟨bl, 0, none⟩) M M), (12, .slice (some ⟨bm, 0, none⟩) wd wd), (13, .bool true), (14, .int .i64 i), (15, .pointer (some ⟨pg, 0, none⟩)), (16, .int .i64 0)] a' → Q (.normal) a' wt) : (apQ15 Try.f3).wp Try.prog Q ⟨T287 x, []⟩ wt := by
  have HQ := Lib.hid hQ
  clear hQ
  have hnil : ∀ (a : Addr) (w : World), (binOp .neq 33 (.pointer (some a)) (.pointer none)).run Try.prog w = .ok (.bool true) w := fun a w => by kernel_rfl
  simp only [apQ15, apB1, apX1, apR9, bodyOf, Try.f3, codeL, codeR, blockOf, loopOf, Option.getD_some, T287]
  simp only [hx0, hx1, hx2, hx7, hx9, hx10, hx11, hx12, hx13, hx14, hx15, hx16]
  go_wp2
  exact HQ.out _ ⟨rfl, rfl, ⟨rfl, rfl, rfl, rfl, rfl, rfl, rfl, rfl, rfl, rfl, rfl, rfl, trivial⟩⟩

theorem ap_q16 (hx0 : x 0 = .int .u8 wd) (hx1 : x 1 = .slice ao M cl) (hx2 : x 2 = .slice bo K co) (hx7 : x 7 = .pointer (some ⟨pA, 0, none⟩)) (hx9 : x 9 = va) (hx10 : x 10 = vw) (hx11 : x 11 = .slice (some ⟨bl, 0, none⟩) M M) (hx12 : x 12 = .slice (some ⟨bm, 0, none⟩) wd wd) (hx13 : x 13 = .bool true) (hx14 : x 14 = .int .i64 i) (hx15 : x 15 = .pointer (some ⟨pg, 0, none⟩)) (hx16 : x 16 = .int .i64 0) {base k : Nat} {xs : List Value} (hr : Rw 33 1 base wt va k xs) (hb : base ≤ wt.heap.size) (hk : k < 10)
    (hQ : ∀ a' w' va', FrY [(0, .int .u8 wd), (1, .slice ao M cl), (2, .slice bo K co), (7, .pointer (some ⟨pA, 0, none⟩)), (9, va'), (10, vw), (11, .slice (some ⟨bl, 0, none⟩) M M), (12, .slice (some ⟨bm, 0, none⟩) wd wd), (13, .bool true), (14, .int .i64 i), (15, .pointer (some ⟨pg, 0, none⟩)), (16, .int .i64 0)] a' → Rw 33 1 base w' va' (k + 1) (xs ++ [.pointer (some ⟨pg, 0, none⟩)]) → (∀ b ∈ blk va', b ∈ blk va ∨ wt.heap.size ≤ b) → Ks (fun b => b ∈ blk va) wt w' → Q .normal a' w') : (apQ16 Try.f3).wp Try.prog Q ⟨T287 x, []⟩ wt := by
  obtain ⟨gb, cap, w6, hrun, hrw, hkp, hgb2⟩ := run_app (t := 30) (ty := 30) (bytes := 8) (w := wt.alloc (.cells #[.pointer (some ⟨pg, 0, none⟩)] 33)) Try.underlying30 info_agentY (by decide) (hr.keep0 ((Kp.refl [] wt).alloc _)) (by rw [World.size_alloc]; omega) ⟨wt.heap.size, 0, none⟩ 1 1 [.pointer (some ⟨pg, 0, none⟩)] rfl (fun j u hj => by
      rcases j with _ | j
      · obtain rfl := Option.some.inj hj
        exact cell_of_row (heap_alloc_new wt _) 0
      · simp at hj) (by simp [Value.oneCell']) (by decide) (by omega) (by decide)
  have HRun := Lib.hid hrun
  have HRw := Lib.hid hrw
  have HKp := Lib.hid hkp
  have HQ := Lib.hid hQ
  clear hrun hrw hkp hQ hr
  simp only [apQ16, apB1, apX1, apR9, bodyOf, Try.f3, codeL, codeR, blockOf, loopOf, Option.getD_some, T287]
  simp only [hx0, hx1, hx2, hx7, hx9, hx10, hx11, hx12, hx13, hx14, hx15, hx16]
  go_wp2_with (at_builtin; refine wpList_append_eq rfl (.tmp 88) (.tmp 90) 30 rfl _ _ _ rfl rfl HRun.out ?_)
  refine HQ.out _ _ (.slice (some ⟨gb, 0, none⟩) (k + 1) cap) ⟨rfl, rfl, ⟨rfl, rfl, rfl, rfl, rfl, rfl, rfl, rfl, rfl, rfl, rfl, rfl, trivial⟩⟩ HRw.out (fun b hb => ?_) ((ks_alloc (fun b => b ∈ blk va) wt _).trans (ks_of_kp HKp.out))
  rw [blk_some, List.mem_singleton] at hb
  rw [hb]
  rcases hgb2 with z | z
  · exact .inl z
  · exact .inr (by rw [z, World.size_alloc]; omega)

theorem ap_q17 (hx0 : x 0 = .int .u8 wd) (hx1 : x 1 = .slice ao M cl) (hx2 : x 2 = .slice bo K co) (hx7 : x 7 = .pointer (some ⟨pA, 0, none⟩)) (hx9 : x 9 = va) (hx10 : x 10 = vw) (hx11 : x 11 = .slice (some ⟨bl, 0, none⟩) M M) (hx12 : x 12 = .slice (some ⟨bm, 0, none⟩) wd wd) (hx13 : x 13 = .bool true) (hx14 : x 14 = .int .i64 i) (hx15 : x 15 = .pointer (some ⟨pg, 0, none⟩)) (hx16 : x 16 = .int .i64 0) {base k b o : Nat} {xs : List Value} {p : Pr} (hao : ao = some ⟨b, o, none⟩) (hc : wt.cell? ⟨b, o + i, none⟩ = some p.v) (hi : i < M) (hM5 : M ≤ 5) (hr : Rw 42 3 base wt vw k xs) (hb : base ≤ wt.heap.size) (hk : k < 10)
    (hQ : ∀ a' w' vw', FrY [(0, .int .u8 wd), (1, .slice ao M cl), (2, .slice bo K co), (7, .pointer (some ⟨pA, 0, none⟩)), (9, va), (10, vw'), (11, .slice (some ⟨bl, 0, none⟩) M M), (12, .slice (some ⟨bm, 0, none⟩) wd wd), (13, .bool true), (14, .int .i64 i), (15, .pointer (some ⟨pg, 0, none⟩)), (16, .int .i64 0)] a' → Rw 42 3 base w' vw' (k + 1) (xs ++ [p.v, .int .i64 0, .int .u64 0]) → (∀ b ∈ blk vw', b ∈ blk vw ∨ wt.heap.size ≤ b) → Ks (fun b => b ∈ blk vw) wt w' → Q .normal a' w') : (apQ17 Try.f3).wp Try.prog Q ⟨T287 x, []⟩ wt := by
  subst hao
  obtain ⟨gb, cap, w6, hrun, hrw, hkp, hgb2⟩ := run_app (t := 31) (ty := 31) (bytes := 40) (w := wt.alloc (.cells #[p.v, .int .i64 0, .int .u64 0] 42)) Try.underlying31 info_prog (by decide) (hr.keep0 ((Kp.refl [] wt).alloc _)) (by rw [World.size_alloc]; omega) ⟨wt.heap.size, 0, none⟩ 1 1 [p.v, .int .i64 0, .int .u64 0] rfl (fun j u hj => by
      rw [Addr.add_lit, Nat.zero_add, cell_of_row (heap_alloc_new wt _) j]
      simpa using hj) (by simp [Value.oneCell', Pr.v]) (by decide) (by omega) (by decide)
  unfold Pr.v at hrun hrw hkp hc
  have HRun := Lib.hid hrun
  have HRw := Lib.hid hrw
  have HKp := Lib.hid hkp
  have HQ := Lib.hid hQ
  clear hrun hrw hkp hQ hr
  simp only [apQ17, apB1, apX1, apR9, bodyOf, Try.f3, codeL, codeR, blockOf, loopOf, Option.getD_some, T287]
  simp only [hx0, hx1, hx2, hx7, hx9, hx10, hx11, hx12, hx13, hx14, hx15, hx16]
  go_wp2_with (at_builtin; refine wpList_append_eq rfl (.tmp 92) (.tmp 98) 31 rfl _ _ _ rfl rfl HRun.out ?_)
  refine HQ.out _ _ (.slice (some ⟨gb, 0, none⟩) (k + 1) cap) ⟨rfl, rfl, ⟨rfl, rfl, rfl, rfl, rfl, rfl, rfl, rfl, rfl, rfl, rfl, rfl, trivial⟩⟩ HRw.out (fun b hb => ?_) ((ks_alloc (fun b => b ∈ blk vw) wt _).trans (ks_of_kp HKp.out))
  rw [blk_some, List.mem_singleton] at hb
  rw [hb]
  rcases hgb2 with z | z
  · exact .inl z
  · exact .inr (by rw [z, World.size_alloc]; omega)
end
end Go.Proofs.Ytnbibpmhmffmpaa

namespace Go.Proofs.Ytnbibpmhmffmpaa
open List renaming getElem_toArray → gtA, getElem_cons_zero → gtZ, getElem_cons_succ → gtS, setIfInBounds_toArray → siA, set_cons_succ → scS, set_cons_zero → scZ, getElem?_toArray → gqA, getElem?_cons_zero → gqZ, getElem?_cons_succ → gqS
set_option linter.unusedVariables false
set_option linter.unusedSimpArgs false
set_option maxRecDepth 100000
open Go.RowKit
open Go.Conc
open Go.ConcN (upd_ne upd_same)

def setF (j : Nat) (v : Int) (g : Nat → Int) : Nat → Int := fun i => if i = j then v else g i
/-- What all share: the words read last; what came in. -/
def lastSh (W : World) (bl M : Nat) (w : World) (g : Nat → Int) : Prop := w.heap[bl]? = some (.cells (u64s ((List.range M).map g)) 40 (0, 0)) ∧ InW W w
def apSB (W : World) (bl : Nat) (b : Nat) : Prop := b = bl ∨ poorless W b
theorem priv_last (W : World) (bl M : Nat) (g : Nat → Int) : Priv (apSB W bl) (fun w => lastSh W bl M w g) := (Priv.row bl _ _ _).and (priv_in W)
theorem last_cell {W w : World} {bl M j : Nat} {g : Nat → Int} (h : lastSh W bl M w g) (hj : j < M) : w.cell? ⟨bl, j, none⟩ = some (.int .u64 (g j)) ∧ w.frozen? ⟨bl, j, none⟩ = false := by
  refine ⟨?_, free_of_row h.1 j⟩
  rw [cell_of_row h.1, u64s_get _ _ (by simpa using hj)]
  simp [List.getD, hj]
theorem last_set {W w : World} {bl M j : Nat} {g : Nat → Int} (hbl : W.heap.size ≤ bl) (h : lastSh W bl M w g) (hj : j < M) (v : Int) : lastSh W bl M (w.setCell ⟨bl, j, none⟩ (.int .u64 v)) (setF j v g) := by
  refine ⟨?_, fun b hb => ?_⟩
  · rw [heap_setCell_same _ _ _ _ _ _ h.1]
    congr 2
    apply Array.ext'
    apply List.ext_getElem (by simp [u64s])
    intro i h1 h2
    have hi : i < M := by simpa [u64s] using h1
    simp only [u64s, Array.toList_setIfInBounds, List.getElem_set, List.getElem_map, List.getElem_range, setF]
    by_cases e : j = i
    · subst e; simp
    · rw [if_neg e, if_neg (fun z => e z.symm)]
  · rw [heap_setCell_other _ _ _ _ (show b ≠ bl from by have := hb.1; omega)]
    exact h.2 b hb
theorem program_makesY (w : World) (la : Option Addr) (qa : Addr) (n c : Nat) : Calls Try.prog 12 #[.slice la n c, .pointer (some qa)] w fun e w' => e = .returned (.func (.func 47) #[] #[.pointer (some ⟨w.heap.size, 0, none⟩), .pointer (some ⟨w.heap.size + 1, 0, none⟩)]) ∧ w' = (w.alloc (.cells #[.slice la n c] 38)).alloc (.cells #[.pointer (some qa)] 39) := by
  go_enter Try.func12, Try.ntmps12
  go_wp2
  simp [bodyPost, results, Try.results12]
/-- What a program holds. -/
def OnP (a : Ag) (b1 b2 q q1 bl j : Nat) (p : Pr) (w : World) : Prop := (w.heap[q]? = some (.cells #[p.v] 38 (0, 0)) ∧ w.heap[q1]? = some (.cells #[.pointer (some ⟨bl, j, none⟩)] 39 (0, 0))) ∧ Boxed a b1 b2 w
def opOwn (b1 b2 q q1 : Nat) (b : Nat) : Prop := (b = q ∨ b = q1) ∨ (b = b1 ∨ b = b2)
theorem priv_op (a : Ag) (b1 b2 q q1 bl j : Nat) (p : Pr) : Priv (opOwn b1 b2 q q1) (OnP a b1 b2 q q1 bl j p) := ((Priv.row _ _ _ _).and (Priv.row _ _ _ _)).and (priv_boxed a b1 b2)

section
variable {Post : Value → World → Prop} {W : World} {pA rA : Nat} {a : Ag} {mv : Value} {home : Goroutine → Prop} {n : Nat}
variable {pl : Nat → Option Place} {F : Nat → Option (Nat × Nat)} {col : Nat → Col} {w : World} {g : Nat → Int} {b1 b2 q q1 bl M j : Nat} {p : Pr} {gf : FuncId} {cap : Array Value}

/-- THE PROGRAM, from its begin. -/
theorem ap_runs (hbl : W.heap.size ≤ bl) (hj : j < M) (hT : Touches W p.ao p.l) (hl : p.l.length ≤ 20) (hmv : mv = memV pA)
    (hA : Acts (apSB W bl) pA rA a mv home true false pl F col w) (hown : ∀ b, opOwn b1 b2 q q1 b → col b = .ag a.j) (hAw : OnP a b1 b2 q q1 bl j p w) (hs : lastSh W bl M w g)
    (K0 : Kont Post (lastSh W bl M) (apSB W bl) pA rA a mv home n (ptree (fun g => g j) (setF j) p.l (g j)) pl F col w g) :
    Win Try.prog Post pl n a.j (gor (Frame.enter Try.prog 47 (#[.iface 136 (.pointer (some ⟨a.m, 0, none⟩))] ++ #[.pointer (some ⟨q, 0, none⟩), .pointer (some ⟨q1, 0, none⟩)]) .normal) [runFr Try.prog Try.f45 a.p a.m b1 b2 gf cap, rootFr Try.prog]) w := by
  have hSh := priv_last W bl M
  cases hpl : p.l with
  | nil =>
    have hb : (Frame.enter Try.prog 47 (#[.iface 136 (.pointer (some ⟨a.m, 0, none⟩))] ++ #[.pointer (some ⟨q, 0, none⟩), .pointer (some ⟨q1, 0, none⟩)]) .normal).kind = .normal := rfl
    rw [hpl] at K0
    have r1 : w.cell? ⟨q, 0, none⟩ = some (.slice p.ao 0 p.cap) := by
      have := cell_of_row hAw.1.1 0
      unfold Pr.v at this
      rw [hpl] at this
      exact this
    rw [enter_at Try.func47 rfl]
    simp only [Try.ntmps47, List.size_toArray, List.length_cons, List.length_nil, Nat.reduceAdd, Nat.reduceSub, Array.replicate_succ, Array.replicate_zero, List.push_toArray, List.append_toArray, List.nil_append, List.cons_append] at hb ⊢
    refine Win.seq ?_
    refine Win.region ?_
    simp only [List.size_toArray, List.length_cons, List.length_nil, Nat.reduceAdd, List.range, List.range.loop]
    refine Win.pureOp (v := .int .i64 0) (.inl hb) rfl rfl (fun w => rfl) ?_
    simp only [Act.put, Act.eval, gqA, gqZ, gqS, Option.bind_some, gtA, gtZ, gtS, siA, scS, scZ]
    refine Win.opsEnd ?_
    refine Win.block ?_
    refine Win.loop ?_
    refine Win.seq ?_
    refine Win.seq ?_
    refine Win.region ?_
    simp only [List.size_toArray, List.length_cons, List.length_nil, Nat.reduceAdd, List.range, List.range.loop]
    refine Win.pureOp (v := .int .i64 0) (.inl hb) rfl rfl (fun w => by rw [Sem.runT_eq]; simp [go_sem, execOp, Act.eval]; try (first | omega | rfl | exact ⟨rfl, rfl⟩ | kernel_rfl)) ?_
    simp only [Act.put, Act.eval, gqA, gqZ, gqS, Option.bind_some, gtA, gtZ, gtS, siA, scS, scZ]
    refine Win.lookOp (v := .slice p.ao 0 p.cap) (ad := ⟨q, 0, none⟩) (x := .slice p.ao 0 p.cap) (.inl hb) rfl rfl (r1) (fun w hc => by rw [Sem.runT_eq]; simp [go_sem, execOp, Act.eval, hc]) ?_
    simp only [Act.put, Act.eval, gqA, gqZ, gqS, Option.bind_some, gtA, gtZ, gtS, siA, scS, scZ]
    refine Win.pureOp (v := .int .i64 0) (.inl hb) rfl rfl (fun w => by rw [Sem.runT_eq]; simp [go_sem, execOp, Act.eval]; try (first | omega | rfl | exact ⟨rfl, rfl⟩ | kernel_rfl)) ?_
    simp only [Act.put, Act.eval, gqA, gqZ, gqS, Option.bind_some, gtA, gtZ, gtS, siA, scS, scZ]
    refine Win.pureOp (v := .bool false) (.inl hb) rfl rfl (fun w => by rw [Sem.runT_eq]; simp [go_sem, execOp, Act.eval]; try (first | omega | rfl | exact ⟨rfl, rfl⟩ | kernel_rfl)) ?_
    simp only [Act.put, Act.eval, gqA, gqZ, gqS, Option.bind_some, gtA, gtZ, gtS, siA, scS, scZ]
    refine Win.opsEnd ?_
    refine Win.cond (t := false) rfl ?_
    simp only [if_true, if_false, Bool.false_eq_true]
    refine Win.exit (k' := []) rfl ?_
    refine Win.falls ?_
    refine Win.leave (v := .tuple #[]) rfl rfl hb Try.func47 (fun d => ⟨#[], by rw [Sem.runT_eq]; simp [go_sem, results, Try.f47], fun e he => by simp at he⟩) ?_
    exact ret_out hA.ends hAw.2 hs hSh K0
  | cons x rest =>
    obtain ⟨_, b, o, hao, _⟩ := hT 0 x (by rw [hpl]; rfl)
    refine prog_runs (oq := j) (bq := bl) (oa := o) (ba := b) (cp := p.cap) (l := p.l) (lst := fun g => g j) (setL := setF j) (own := opOwn b1 b2 q q1) (A := OnP a b1 b2 q q1 bl j p) hSh hmv (priv_op a b1 b2 q q1 bl j p) ?_ ?_ (fun v g => by simp [setF]) (.inl rfl) (fun w h => h.2) (by omega) hA hown hAw hs K0
    · intro w g h hs
      obtain ⟨⟨r1, r2⟩, _⟩ := h
      refine ⟨?_, cell_of_row r2 0, (last_cell hs hj).1, (last_cell hs hj).2, fun i d k v hget => ?_⟩
      · have := cell_of_row r1 0
        unfold Pr.v at this
        rw [hao] at this
        exact this
      · obtain ⟨_, b', o', h1, h2, h3, h4⟩ := (hT.inw hs.2) i (d, k, v) hget
        rw [hao] at h1
        cases h1
        exact ⟨h2, h3, h4⟩
    · intro w g v h hs
      obtain ⟨⟨r1, r2⟩, h1, h2⟩ := h
      have n1 : b1 ≠ bl := fun e => by rw [e, hs.1] at h1; simp at h1
      have n2 : b2 ≠ bl := fun e => by rw [e, hs.1] at h2; simp at h2
      have n3 : q ≠ bl := fun e => by rw [e, hs.1] at r1; simp at r1
      have n4 : q1 ≠ bl := fun e => by rw [e, hs.1] at r2; simp at r2
      have kk := ks_setCell w ⟨bl, j, none⟩ (.int .u64 v)
      have hne : ∀ {b : Nat}, b ≠ bl → ¬ b = (⟨bl, j, none⟩ : Addr).block := fun h => h
      exact ⟨⟨⟨kk.row (hne n3) r1, kk.row (hne n4) r2⟩, kk.row (hne n1) h1, kk.row (hne n2) h2⟩, last_set hbl hs hj v⟩
end
end Go.Proofs.Ytnbibpmhmffmpaa
