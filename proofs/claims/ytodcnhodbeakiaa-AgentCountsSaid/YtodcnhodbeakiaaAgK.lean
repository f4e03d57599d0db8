/- Agents by trees of touches: what an agent does is a tree; 'Poised': it waits for its turn, and behind that turn it does as its tree says. Conditions: none. -/
import Derived.Test.YtodcnhodbeakiaaAgJ
import Derived.Test.YtodcnhodbeakiaaArnK
namespace Go.Proofs.Ytodcnhodbeakiaa
set_option linter.unusedVariables false
set_option linter.unusedSimpArgs false
set_option maxRecDepth 100000
open Go.Conc
open Go.ConcN (upd upd_ne upd_same)

/-! Worlds in which only some blocks have turned -/
structure Ks (S : Nat → Prop) (w w' : World) : Prop where
  os : w'.os = w.os
  output : w'.output = w.output
  size : w.heap.size ≤ w'.heap.size
  block : ∀ k, k < w.heap.size → ¬ S k → w'.heap[k]? = w.heap[k]?
section
variable {S T : Nat → Prop} {w w' a b c : World}
theorem Ks.refl (S : Nat → Prop) (w : World) : Ks S w w := ⟨rfl, rfl, Nat.le_refl _, fun _ _ _ => rfl⟩
theorem Ks.trans (h : Ks S a b) (k : Ks S b c) : Ks S a c :=
  ⟨k.os.trans h.os, k.output.trans h.output, Nat.le_trans h.size k.size, fun i hi hn => (k.block i (Nat.lt_of_lt_of_le hi h.size) hn).trans (h.block i hi hn)⟩
theorem Ks.mono (h : Ks S a b) (hs : ∀ k, k < a.heap.size → S k → T k) : Ks T a b := ⟨h.os, h.output, h.size, fun k hk hn => h.block k hk fun z => hn (hs k hk z)⟩
/-- A step behind that turns what is old by T, or new. -/
theorem Ks.then (h : Ks S a b) (k : Ks T b c) (hT : ∀ i, i < a.heap.size → T i → S i) : Ks S a c :=
  ⟨k.os.trans h.os, k.output.trans h.output, Nat.le_trans h.size k.size, fun i hi hn => (k.block i (Nat.lt_of_lt_of_le hi h.size) fun z => hn (hT i hi z)).trans (h.block i hi hn)⟩
theorem Ks.at (h : Ks S a b) (d : Nat) : Ks S a (b.at d) := ⟨h.os, h.output, h.size, h.block⟩
theorem Ks.at_l (h : Ks S a b) (d : Nat) : Ks S (a.at d) b := ⟨h.os, h.output, h.size, h.block⟩
theorem ks_alloc (S : Nat → Prop) (w : World) (o : Obj) : Ks S w (w.alloc o) := ⟨rfl, rfl, by show _ ≤ (w.heap.push o).size; simp, fun k hk _ => alloc_heap w o k hk⟩
theorem ks_setCell (w : World) (ad : Addr) (x : Value) : Ks (· = ad.block) w (w.setCell ad x) := ⟨rfl, rfl, by simp [World.setCell], fun k hk hn => by simp [World.setCell, Array.getElem?_modify, Ne.symm hn]⟩
theorem ks_setChan (w : World) (r cap : Nat) (buf : Array Value) (cl : Bool) (sn rc : Nat) (tm : Bool) : Ks (· = r) w (w.setChan r cap buf cl sn rc tm) :=
  ⟨rfl, rfl, by simp [World.setChan], fun k hk hn => heap_setChan_ne w _ _ _ _ _ _ (Ne.symm hn)⟩
theorem ks_of_kp {l : List Nat} (h : Kp l w w') : Ks (· ∈ l) w w' := ⟨h.os, h.output, h.size, fun k hk hn => h.block k hk hn⟩
theorem Ks.row (h : Ks S w w') {k : Nat} (hn : ¬ S k) {o : Obj} (ho : w.heap[k]? = some o) : w'.heap[k]? = some o := (h.block k (lt_of_block ho) hn).trans ho
end

/-! The twin -/
section
variable {pl : Nat → Option Place} {F : Nat → Option (Nat × Nat)} {w w' : World} {τ : Nat → Question → Nat} {D : Nat}
theorem Lies.same (L : Lies pl F w) (w' : World) {b : Nat} (hF : F b = none) (hp : poor w.heap[b]? = false) : (L.veil.world τ D w').heap[b]? = w'.heap[b]? := by
  rw [veil_heap]
  have h1 : L.veil.froz b = none := hF
  have h2 : L.veil.ch b = false := hp
  cases w'.heap[b]? with
  | none => rfl
  | some o => cases o <;> simp [Veil.obj, h1, h2]
theorem ks_of_twin (L : Lies pl F w) {S : Nat → Prop} (hok : VOK L.veil w') (hk : VKeep L.veil w w') {τ' : Nat → Question → Nat} (h : Ks S (L.veil.world τ 0 w) (L.veil.world τ' D w')) : Ks S w w' := by
  refine ⟨h.os, h.output, hk.size, fun b hb hn => ?_⟩
  have he := h.block b (by rw [veil_size]; exact hb) hn
  by_cases hc : L.veil.ch b = true
  · exact hk.chs b hc
  have hc' : L.veil.ch b = false := by simpa using hc
  rw [veil_heap, veil_heap] at he
  cases hF : L.veil.froz b with
  | some r =>
    obtain ⟨c, t, h1⟩ := L.ok.frz b r hF
    obtain ⟨c', t', h2⟩ := hok.frz b r hF
    rw [h1, h2] at he ⊢
    simp [Veil.obj, hF] at he
    rw [he.1, he.2]
  | none =>
    have hid : ∀ o, L.veil.obj b o = o := fun o => by cases o <;> simp [Veil.obj, hF, hc']
    cases h1 : w.heap[b]? <;> cases h2 : w'.heap[b]? <;> rw [h1, h2] at he <;> simp [hid] at he ⊢
    exact he
end

/-- All words are a uint64's. -/
def Bnd (s : St) : Prop := ∀ x ∈ s.ws, 0 ≤ x ∧ x < 18446744073709551616
theorem Bnd.was {s : St} (h : Bnd s) (k : Int) : 0 ≤ Go.Proofs.Ytodcnhodbeakiaa.was s k ∧ Go.Proofs.Ytodcnhodbeakiaa.was s k < 18446744073709551616 := by
  by_cases hk : inB s k = true
  · have h3 : k.toNat < s.ws.length := by have := inB_iff.1 hk; omega
    rw [was_in hk]
    have := h (s.ws[k.toNat]) (List.getElem_mem h3)
    simpa [List.getD, h3] using this
  · rw [was_out (by simpa using hk)]; omega
theorem Bnd.upd {s : St} (h : Bnd s) (k y : Int) (h0 : 0 ≤ y) (h1 : y < 18446744073709551616) : Bnd (Go.Proofs.Ytodcnhodbeakiaa.upd s k y) := by
  intro x hx
  by_cases hk : inB s k = true
  · rw [upd_in hk] at hx
    rcases List.mem_or_eq_of_mem_set hx with z | rfl
    · exact h x z
    · exact ⟨h0, h1⟩
  · rw [upd_out (by simpa using hk)] at hx; exact h x hx

/-! Whose a block is -/
inductive Col where
  | main | arena | shared | ag (j : Nat) | sys (j : Nat)
  deriving DecidableEq
def Col.isSys : Col → Bool
  | .sys _ => true
  | _ => false
/-- Where all lies: the shared blocks, the arena's two; what who waits looks at are blocks of the system alone. -/
structure Lay (SB : Nat → Prop) (pA rA : Nat) (col : Nat → Col) (F : Nat → Option (Nat × Nat)) (w : World) : Prop where
  free : ∀ b, (col b).isSys = false → F b = none
  above : ∀ b, w.heap.size ≤ b → col b = .main
  sb : ∀ b, SB b → col b = .shared
  ar : col pA = .arena ∧ col rA = .arena

/-- What is held of blocks alone, and these are not poor. -/
structure Priv (own : Nat → Prop) (A : World → Prop) : Prop where
  st : ∀ w w', A w → (∀ b, own b → w'.heap[b]? = w.heap[b]?) → A w'
  np : ∀ w b, A w → own b → poor w.heap[b]? = false
  lt : ∀ w b, A w → own b → b < w.heap.size

structure Ag where
  j : Nat
  p : Nat
  cT : Nat
  cU : Nat
  cS : Nat
  m : Nat

/-- What an agent does: it is at its end; or it touches a word, which becomes so, and then does what hangs on what it was. 'c': what the shared state becomes behind the touch; 'hl': what it becomes where it is stopped ahead of it. -/
inductive Tree (G : Type) where
  | ret : Tree G
  | node (k : Int) (φ : Int → Int) (c : Int → G → G) (nx : Int → G → Tree G) (hl : G → G) : Tree G

def StAt (a : Ag) (mv nx : Value) (bz ov : Bool) (w : World) : Prop := w.heap[a.p]? = some (.cells #[mv, .chan (some a.cT), .chan (some a.cU), .chan (some a.cS), nx, .bool bz, .bool ov] 97 (0, 0))
def MeAt (a : Ag) (runs : Bool) (left : Int) (w : World) : Prop := w.heap[a.m]? = some (.cells #[.pointer (some ⟨a.p, 0, none⟩), .bool runs, .int .i64 left] 123 (0, 0))
def Open (c : Nat) (w : World) : Prop := ∃ k, w.heap[c]? = some (.chan 0 #[] false k k false)
def Shut' (c : Nat) (w : World) : Prop := ∃ k, w.heap[c]? = some (.chan 0 #[] true k k false)

/-- The agent acts, who steps waits for it. -/
structure Acts (SB : Nat → Prop) (pA rA : Nat) (a : Ag) (mv : Value) (home : Goroutine → Prop) (runs ov : Bool) (pl : Nat → Option Place) (F : Nat → Option (Nat × Nat)) (col : Nat → Col) (w : World) : Prop where
  jpos : 0 < a.j
  lies : Lies pl F w
  lay : Lay SB pA rA col F w
  seat : ∃ more, pl 0 = some (waitSeat a.p a.cT more home)
  absent : pl a.j = none
  alone : ∀ i s, pl i = some s → ¬ s.has a.cU ∧ ¬ s.has a.cS
  st : ∃ nx bz, StAt a mv nx bz ov w
  me : MeAt a runs 0 w
  fm : F a.m = some (0, 1)
  fp : F a.p = some (1, 4)
  cm : col a.m = .sys a.j
  cp : col a.p = .sys a.j
  ccT : col a.cT = .sys a.j
  ccU : col a.cU = .sys a.j
  ccS : col a.cS = .sys a.j
  dis : a.cT ≠ a.cU ∧ a.cT ≠ a.cS ∧ a.cU ≠ a.cS
  oT : Open a.cT w
  oU : Open a.cU w
  oS : ov = false → Open a.cS w

/-- What an agent may do to the world by itself. -/
structure Moves (S : Nat → Prop) (j : Nat) (F : Nat → Option (Nat × Nat)) (col : Nat → Col) (w : World) (F' : Nat → Option (Nat × Nat)) (col' : Nat → Col) (w' : World) : Prop where
  ks : Ks S w w'
  colo : ∀ b, b < w.heap.size → col' b = col b
  coln : ∀ b, w.heap.size ≤ b → b < w'.heap.size → col' b = .ag j ∨ col' b = .sys j
  fo : ∀ b, b < w.heap.size → F' b = F b

/-- What may have turned while the agent acted. -/
def mine (a : Ag) (col : Nat → Col) (b : Nat) : Prop := col b = .ag a.j ∨ (col b = .sys a.j ∧ b ≠ a.p) ∨ col b = .shared

/-- Who stepped acts again. -/
structure After (SB : Nat → Prop) (pA rA : Nat) (a : Ag) (pl : Nat → Option Place) (F : Nat → Option (Nat × Nat)) (col : Nat → Col) (w : World) (pl' : Nat → Option Place) (F' : Nat → Option (Nat × Nat)) (col' : Nat → Col) (w' : World) : Prop where
  mv : Moves (mine a col) a.j F col w F' col' w'
  pls : ∀ i, i ≠ 0 → i ≠ a.j → pl' i = pl i
  pl0 : pl' 0 = none
  lies : Lies pl' F' w'
  lay : Lay SB pA rA col' F' w'

section
variable {G : Type} (Post : Value → World → Prop) (Sh : World → G → Prop) (SB : Nat → Prop) (pA rA : Nat)

/-- Who steps is ready for what the agent comes to. -/
def KontW (T : Tree G) (Po : (Nat → Option Place) → (Nat → Option (Nat × Nat)) → (Nat → Col) → World → Value → Prop) (a : Ag) (home : Goroutine → Prop) (n : Nat) (pl : Nat → Option Place) (F : Nat → Option (Nat × Nat)) (col : Nat → Col) (w : World) (g : G) : Prop :=
  match T with
  | .ret => ∀ pl' F' col' w' gm, home gm → After SB pA rA a pl F col w pl' F' col' w' → pl' a.j = none → Shut' a.cT w' → Sh w' g → Win Try.prog Post pl' n 0 (Go.Conc.served gm (.tuple #[.nilFunc, .bool false])) w'
  | .node .. => ∀ pl' F' col' w' gm t, home gm → After SB pA rA a pl F col w pl' F' col' w' → Open a.cT w' → Open a.cU w' → Open a.cS w' → Po pl' F' col' w' t → Sh w' g → Win Try.prog Post pl' n 0 (Go.Conc.served gm (.tuple #[t, .bool true])) w'

/-- The agent waits for its turn. -/
def Poised (a : Ag) (mv : Value) : Tree G → (Nat → Option Place) → (Nat → Option (Nat × Nat)) → (Nat → Col) → World → Value → Prop
  | .ret => fun _ _ _ _ _ => False
  | .node k φ c nx hl => fun pl F col w t => ∃ (b3 : Nat) (homeJ : Goroutine → Prop) (own : Nat → Prop) (A : World → Prop) (B : Int → (Nat → Prop) → World → Prop) (f : FuncId) (cap : Array Value),
      pl a.j = some (turnSeat a.p a.m b3 a.cU a.cS homeJ) ∧ (∀ b, own b → col b = .ag a.j) ∧ Priv own A ∧ (∀ v o, Priv o (B v o)) ∧ A w ∧ MeAt a false 0 w ∧
      w.heap[b3]? = some (.cells #[.pointer (some ⟨a.m, 0, none⟩)] 121 (0, 0)) ∧ col b3 = .sys a.j ∧ F a.m = some (0, 1) ∧ F b3 = some (0, 1) ∧ (t = .func (.func f) #[] cap ∧ ∃ fn : Func, Try.prog.funcs[f]? = some fn ∧ fn.body.isNone = false) ∧
      (∀ w' s, A w' → Ar w' pA rA s → s.ws.length ≤ 4096 → s.t ≤ 4095 → Bnd s → Calls Try.prog f (#[mv] ++ cap) w' fun e w2 => e = .returned (.tuple #[]) ∧ Ar w2 pA rA (Go.Proofs.Ytodcnhodbeakiaa.upd s k (φ (was s k))) ∧
        (∃ o, (∀ b, o b → own b ∨ (w'.heap.size ≤ b ∧ b < w2.heap.size)) ∧ B (was s k) o w2) ∧ Ks (fun b => b = pA ∨ b = rA ∨ own b) w' w2) ∧
      (∀ v o home n pl' F' col' w' g gj, homeJ gj → Acts SB pA rA a mv home false false pl' F' col' w' → (∀ b, o b → col' b = .ag a.j) → B v o w' → w'.heap[b3]? = some (.cells #[.pointer (some ⟨a.m, 0, none⟩)] 121 (0, 0)) → Sh w' g →
        KontW Post Sh SB pA rA (nx v g) (fun pl F col w t => Poised a mv (nx v g) pl F col w t) a home n pl' F' col' w' (c v g) → Win Try.prog Post pl' n a.j (Go.Conc.served gj (.tuple #[.int .i64 0, .bool true, .nilIface, .agg #[]])) w') ∧
      (∀ home n pl' F' col' w' g gj, homeJ gj → Acts SB pA rA a mv home false true pl' F' col' w' → (∀ b, own b → col' b = .ag a.j) → A w' → w'.heap[b3]? = some (.cells #[.pointer (some ⟨a.m, 0, none⟩)] 121 (0, 0)) → Sh w' g →
        KontW Post Sh SB pA rA (.ret : Tree G) (fun _ _ _ _ _ => False) a home n pl' F' col' w' (hl g) → Win Try.prog Post pl' n a.j (Go.Conc.served gj (.tuple #[.int .i64 1, .bool false, .nilIface, .agg #[]])) w')

/-- Who steps is ready. -/
def Kont (a : Ag) (mv : Value) (home : Goroutine → Prop) (n : Nat) (T : Tree G) (pl : Nat → Option Place) (F : Nat → Option (Nat × Nat)) (col : Nat → Col) (w : World) (g : G) : Prop :=
  KontW Post Sh SB pA rA T (fun pl F col w t => Poised Post Sh SB pA rA a mv T pl F col w t) a home n pl F col w g

/-- How the agent stands between two steps. -/
def Stands (a : Ag) (mv : Value) (T : Tree G) (pl : Nat → Option Place) (F : Nat → Option (Nat × Nat)) (col : Nat → Col) (w : World) : Prop :=
  match T with
  | .ret => pl a.j = none ∧ StAt a mv .nilFunc false true w
  | .node .. => ∃ t, StAt a mv t false false w ∧ Open a.cT w ∧ Open a.cU w ∧ Open a.cS w ∧ Poised Post Sh SB pA rA a mv T pl F col w t
end

end Go.Proofs.Ytodcnhodbeakiaa
