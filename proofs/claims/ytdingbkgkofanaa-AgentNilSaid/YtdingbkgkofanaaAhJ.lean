/- The law's wake. Written by gen/ah_j.py. Conditions: as each theorem states them. -/
import Derived.Test.YtdingbkgkofanaaAhI
namespace Go.Proofs.Ytdingbkgkofanaa
set_option linter.unusedVariables false
set_option linter.unusedSimpArgs false
set_option maxRecDepth 100000
open Go.Conc
open Go.ConcN (upd_ne upd_same)

theorem Priv.both {o1 o2 : Nat → Prop} {A1 A2 : World → Prop} (h1 : Priv o1 A1) (h2 : Priv o2 A2) : Priv (fun b => o1 b ∨ o2 b) (fun w => A1 w ∧ A2 w) :=
  ⟨fun w w' h he => ⟨h1.st _ _ h.1 fun b hb => he b (.inl hb), h2.st _ _ h.2 fun b hb => he b (.inr hb)⟩, fun w b h hb => hb.elim (h1.np _ _ h.1) (h2.np _ _ h.2), fun w b h hb => hb.elim (h1.lt _ _ h.1) (h2.lt _ _ h.2)⟩
theorem priv_row (b : Nat) (c : Array Value) (t : TypeId) (f : Nat × Nat) : Priv (· = b) (fun w => w.heap[b]? = some (.cells c t f)) :=
  ⟨fun w w' h he => (he b rfl).trans h, fun w x h e => by subst e; exact rich_cells h, fun w x h e => by subst e; exact lt_of_block h⟩

/-- A lone call that turns nothing old. -/
theorem Desk.ks0 {SB : Nat → Prop} {pA rA : Nat} {pl : Nat → Option Place} {F : Nat → Option (Nat × Nat)} {col : Nat → Col} {w w' : World} (D : Desk SB pA rA pl F col w) (hL : Lies pl F w') (k : Ks (fun _ => False) w w') : Desk SB pA rA pl F col w' :=
  ⟨D.pl0, hL, ⟨D.lay.free, fun b hb => D.lay.above b (Nat.le_trans k.size hb), D.lay.sb, D.lay.ar⟩, D.own⟩

def wakesSh (bq : Nat) (w : World) (g : Int) : Prop := w.heap[bq]? = some (.cells #[.int .u64 g] 40 (0, 0))
def wakesCol (n pA rA bq ba bl bp : Nat) (b : Nat) : Col := if b = pA ∨ b = rA then .arena else if b = bq then .shared else if b = ba ∨ b = bl ∨ b = bp then .ag n else .main
def wakesA (bq ba bl bp : Nat) (w : World) : Prop := w.heap[ba]? = some (.cells #[.int .u8 0, .int .i64 1, .int .u64 0, .int .u8 1, .int .i64 0, .int .u64 1] 48 (0, 0)) ∧ w.heap[bl]? = some (.cells #[.slice (some ⟨ba, 0, none⟩) 2 2] 38 (0, 0)) ∧ w.heap[bp]? = some (.cells #[.pointer (some ⟨bq, 0, none⟩)] 39 (0, 0))
/-- The wake's two touches. -/
def wakesL : List (Int × Int × Int) := [(0, 1, 0), (1, 0, 1)]

section
variable {pl : Nat → Option Place} {n h : Nat} {Post : Value → World → Prop} {w : World}

set_option maxHeartbeats 4000000 in
/-- From the birth on. -/
theorem wakes_new (hpl : ∀ i, pl i = none) (hn : 0 < n) {pA rA bq ba bl bp : Nat} {w1 : World} (hw : Woken w w1 pA rA bq ba bl bp) {c₀ : Frame} {cs : List Frame}
    (H : ∀ a pl' F' col' w', a.j = n → AgOK a F' col' → Desk (· = bq) pA rA pl' F' col' w' → Ks (fun b => wakesCol n pA rA bq ba bl bp b = .ag n ∨ wakesCol n pA rA bq ba bl bp b = .shared) w1 w' → Same (fun _ => none) (wakesCol n pA rA bq ba bl bp) w1 F' col' → (∀ i, i ≠ n → pl' i = pl i) →
      Stands Post (wakesSh bq) (· = bq) pA rA a (memV pA) (ptree (fun g : Int => g) (fun v _ => v) wakesL 0) pl' F' col' w' → wakesSh bq w' 0 → w1.heap.size ≤ a.p → Win Try.prog Post pl' (n + 1) 0 (gor (c₀.finish (.tuple #[.pointer (some ⟨a.p, 0, none⟩), .int .i64 0])) cs) w') :
    Win Try.prog Post pl n 0 (gor (Frame.enter Try.prog 12 #[memV pA, .func (.func 38) #[] #[.pointer (some ⟨bl, 0, none⟩), .pointer (some ⟨bp, 0, none⟩)]] .normal) (c₀ :: cs)) w1 := by
  obtain ⟨o1, o2, o3, o4, o5, o6⟩ := hw.new
  have lp := lt_of_block hw.rp
  have hSh : ∀ g, Priv (· = bq) (fun w => wakesSh bq w g) := fun g => priv_row _ _ _ _
  have hP0 : Priv (fun b => b = ba ∨ b = bl ∨ b = bp) (wakesA bq ba bl bp) := (priv_row _ _ _ _).both ((priv_row _ _ _ _).both (priv_row _ _ _ _))
  have D : Desk (· = bq) pA rA pl (fun _ => none) (wakesCol n pA rA bq ba bl bp) w1 := by
    refine ⟨hpl 0, lies_none hpl w1, ⟨fun _ _ => rfl, fun b hb => ?_, fun b hb => ?_, ?_, ?_⟩, fun i s c hi => by rw [hpl i] at hi; cases hi⟩
    · unfold wakesCol; rw [if_neg (by omega), if_neg (by omega), if_neg (by omega)]
    · have e : b = bq := hb
      unfold wakesCol; rw [if_neg (by omega), if_pos e]
    · unfold wakesCol; rw [if_pos (.inl rfl)]
    · unfold wakesCol; rw [if_pos (.inr rfl)]
  refine new_goes (Sh := wakesSh bq) (G := Int) (T := ptree (fun g : Int => g) (fun v _ => v) wakesL 0) (g := 0) (g1 := 0) hSh D hn (hpl n) (fun b e => ?_) Try.func38 rfl hP0 (fun b hb => ?_) ⟨hw.ra, hw.rl, hw.rp⟩ hw.rq ?_ H
  · unfold wakesCol at e
    split at e
    · cases e
    · split at e
      · cases e
      · split at e <;> cases e
  · unfold wakesCol; rw [if_neg (by omega), if_neg (by omega), if_pos hb]
  · intro a home pl' F' col' w' b1 b2 hj hA hB hc1 hc2 hown hA0 hs' K0
    refine prog_runs (oq := 0) (oa := 0) (ba := ba) (cp := 2) (l := wakesL) (lst := fun g : Int => g) (setL := fun v _ => v) (own := fun b => (b = ba ∨ b = bl ∨ b = bp) ∨ (b = b1 ∨ b = b2)) (A := fun w => wakesA bq ba bl bp w ∧ Boxed a b1 b2 w) hSh rfl (hP0.both (priv_boxed a b1 b2)) ?_ ?_ (fun _ _ => rfl) rfl (fun w h => h.2) (by decide) hA (fun b hb => ?_) ⟨hA0, hB⟩ hs' K0
    · intro w g h hs
      obtain ⟨⟨r1, r2, r3⟩, _⟩ := h
      have hs2 : w.heap[bq]? = some (.cells #[.int .u64 g] 40 (0, 0)) := hs
      refine ⟨cell_of_row r2 0, cell_of_row r3 0, cell_of_row hs2 0, free_of_row hs2 0, fun i d k v hget => ?_⟩
      rcases i with _ | _ | i
      · obtain ⟨rfl, rfl, rfl⟩ : (0 : Int) = d ∧ (1 : Int) = k ∧ (0 : Int) = v := by simpa [wakesL] using hget
        exact ⟨cell_of_row r1 0, cell_of_row r1 1, cell_of_row r1 2⟩
      · obtain ⟨rfl, rfl, rfl⟩ : (1 : Int) = d ∧ (0 : Int) = k ∧ (1 : Int) = v := by simpa [wakesL] using hget
        exact ⟨cell_of_row r1 3, cell_of_row r1 4, cell_of_row r1 5⟩
      · simp [wakesL] at hget
    · intro w g v h hs
      obtain ⟨⟨r1, r2, r3⟩, h1, h2⟩ := h
      have hs2 : w.heap[bq]? = some (.cells #[.int .u64 g] 40 (0, 0)) := hs
      have n1 : b1 ≠ bq := fun e => by rw [e, hs2] at h1; simp at h1
      have n2 : b2 ≠ bq := fun e => by rw [e, hs2] at h2; simp at h2
      have kk := ks_setCell w ⟨bq, 0, none⟩ (.int .u64 v)
      have hne : ∀ {b : Nat}, b ≠ bq → ¬ b = (⟨bq, 0, none⟩ : Addr).block := fun h => h
      refine ⟨⟨⟨kk.row (hne (by omega)) r1, kk.row (hne (by omega)) r2, kk.row (hne (by omega)) r3⟩, kk.row (hne n1) h1, kk.row (hne n2) h2⟩, ?_⟩
      have := heap_setCell_same _ bq 0 _ _ (.int .u64 v) hs2
      unfold wakesSh
      rw [this]; simp
    · rw [hj]
      rcases hb with hb | rfl | rfl
      · exact hown b hb
      · exact hc1
      · exact hc2
end
end Go.Proofs.Ytdingbkgkofanaa
