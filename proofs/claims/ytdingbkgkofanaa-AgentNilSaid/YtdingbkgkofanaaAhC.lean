/- Agents by trees, on: New, as a whole. Conditions: as each theorem states them. -/
import Derived.Test.YtdingbkgkofanaaAhB
namespace Go.Proofs.Ytdingbkgkofanaa
set_option linter.unusedVariables false
set_option linter.unusedSimpArgs false
set_option maxRecDepth 100000
open Go.Conc
open Go.ConcN (upd_ne upd_same)

section
variable {G : Type} {Post : Value → World → Prop} {Sh : World → G → Prop} {SB : Nat → Prop} {pA rA : Nat} {a : Ag} {mv : Value} {n : Nat} {T : Tree G}
variable {pl pl' : Nat → Option Place} {F F' : Nat → Option (Nat × Nat)} {col col' : Nat → Col} {w w' : World} {g : G}

theorem stAt_laid2 {nx nx' : Value} {bz ov : Bool} (h : StAt a mv nx bz ov w) (ok : Bool) : StAt a mv nx' bz ok ((w.setCell ⟨a.p, 4, none⟩ nx').setCell ⟨a.p, 6, none⟩ (.bool ok)) := by
  unfold StAt at *
  have h1 := heap_setCell_same w a.p 4 _ _ nx' h
  have h2 := heap_setCell_same _ a.p 6 _ _ (.bool ok) h1
  rw [h2]
  simp
theorem ks_laid2 (w : World) (p : Nat) (x y : Value) : Ks (· = p) w ((w.setCell ⟨p, 4, none⟩ x).setCell ⟨p, 6, none⟩ y) := (ks_setCell w ⟨p, 4, none⟩ x).trans (ks_setCell _ ⟨p, 6, none⟩ y)
theorem size_laid2 (w : World) (p : Nat) (x y : Value) : ((w.setCell ⟨p, 4, none⟩ x).setCell ⟨p, 6, none⟩ y).heap.size = w.heap.size := by simp [World.setCell]

/-- Who waits to tell what an agent came to, in one of two ways: 'back' tells how. -/
theorem wait_ends (hSh : ∀ g, Priv SB (fun w => Sh w g)) {home : Goroutine → Prop} {c₀ : Frame} {cs : List Frame} {ans : Value} {g' : G} {T' : Tree G} (hO : AgOK a F col) (hL : Lay SB pA rA col F w) {nxv : Value} {ov : Bool} (hst : StAt a mv nxv false ov w)
    (hback : ∀ gm pl' w' x y next ok, home gm → w'.cell? ⟨a.p, 4, none⟩ = some x → w'.cell? ⟨a.p, 6, none⟩ = some y → w'.frozen? ⟨a.p, 4, none⟩ = false → w'.frozen? ⟨a.p, 6, none⟩ = false → (∀ l, next ≠ .agg l) → (∀ l, next ≠ .tuple l) → Free pl' ⟨a.p, 4, none⟩ → Free pl' ⟨a.p, 6, none⟩ →
      Win Try.prog Post pl' n 0 (gor (c₀.finish ans) cs) ((w'.setCell ⟨a.p, 4, none⟩ next).setCell ⟨a.p, 6, none⟩ (.bool !ok)) → Win Try.prog Post pl' n 0 (Go.Conc.served gm (.tuple #[next, .bool ok])) w')
    (hplo : ∀ i s c, i ≠ 0 → i ≠ a.j → pl i = some s → s.has c → c < w.heap.size ∧ col c = .sys i)
    (H : ∀ pl' F' col' w', Desk SB pA rA pl' F' col' w' → Ks (fun b => mine a col b ∨ b = a.p) w w' → Same F col w F' col' → (∀ i, i ≠ 0 → i ≠ a.j → pl' i = pl i) → Stands Post Sh SB pA rA a mv T' pl' F' col' w' → Sh w' g' → Win Try.prog Post pl' n 0 (gor (c₀.finish ans) cs) w') :
    Kont Post Sh SB pA rA a mv home n T' pl F col w g' := by
  have hj0 : (0 : Nat) ≠ a.j := by have := hO.jpos; omega
  have hpS : ¬ mine a col a.p := by
    intro h
    rcases h with h | h | h
    · rw [hO.cp] at h; cases h
    · exact h.2 rfl
    · rw [hO.cp] at h; cases h
  have core : ∀ (next : Value) (ok : Bool) pl' F' col' w', (∀ l, next ≠ .agg l) → (∀ l, next ≠ .tuple l) → After SB pA rA a pl F col w pl' F' col' w' →
      Win Try.prog Post pl' n 0 (gor (c₀.finish ans) cs) ((w'.setCell ⟨a.p, 4, none⟩ next).setCell ⟨a.p, 6, none⟩ (.bool !ok)) →
      ∀ gm, home gm → Win Try.prog Post pl' n 0 (Go.Conc.served gm (.tuple #[next, .bool ok])) w' := by
    intro next ok pl' F' col' w' hn1 hn2 hA hW gm hgm
    have hst' : StAt a mv nxv false ov w' := hA.mv.ks.row hpS hst
    have hFp : F' a.p = some (1, 4) := (hA.mv.fo _ (hL.lt (by rw [hO.cp]; simp))).trans hO.fp
    exact hback gm pl' w' _ _ next ok hgm (cell_of_row hst' 4) (cell_of_row hst' 6) (free_of_row hst' 4) (free_of_row hst' 6) hn1 hn2 (free_of_lies hA.lies hFp hst' (by omega)) (free_of_lies hA.lies hFp hst' (by omega)) hW
  have desk : ∀ (next : Value) (ok : Bool) pl' F' col' w', After SB pA rA a pl F col w pl' F' col' w' → (∀ s c, pl' a.j = some s → s.has c → col' c = .sys a.j) →
      Desk SB pA rA pl' F' col' ((w'.setCell ⟨a.p, 4, none⟩ next).setCell ⟨a.p, 6, none⟩ (.bool ok)) := by
    intro next ok pl' F' col' w' hA hj
    refine ⟨hA.pl0, (hA.lies.setCell _ _).setCell _ _, ⟨hA.lay.free, fun b hb => hA.lay.above b (by rw [size_laid2] at hb; exact hb), hA.lay.sb, hA.lay.ar⟩, fun i s c hi hc => ?_⟩
    by_cases e0 : i = 0
    · subst e0; rw [hA.pl0] at hi; cases hi
    by_cases ej : i = a.j
    · subst ej; exact hj s c hi hc
    · rw [hA.pls i e0 ej] at hi
      obtain ⟨h1, h2⟩ := hplo i s c e0 ej hi hc
      rw [hA.mv.colo c h1]; exact h2
  have ksAll : ∀ (x y : Value) pl' F' col' w', After SB pA rA a pl F col w pl' F' col' w' → Ks (fun b => mine a col b ∨ b = a.p) w ((w'.setCell ⟨a.p, 4, none⟩ x).setCell ⟨a.p, 6, none⟩ y) := by
    intro x y pl' F' col' w' hA
    exact (hA.mv.ks.mono fun b _ h => Or.inl h).then (ks_laid2 w' a.p x y) fun b _ e => .inr e
  have shAll : ∀ (x y : Value) pl' F' col' w', After SB pA rA a pl F col w pl' F' col' w' → Sh w' g' → Sh ((w'.setCell ⟨a.p, 4, none⟩ x).setCell ⟨a.p, 6, none⟩ y) g' := by
    intro x y pl' F' col' w' hA hs
    refine (hSh g').st _ _ hs fun b hb => (ks_laid2 w' a.p x y).block b ((hSh g').lt _ _ hs hb) fun e => ?_
    have h1 := hA.lay.sb b hb
    have h2 := hA.mv.colo a.p (hL.lt (by rw [hO.cp]; simp))
    rw [e, h2, hO.cp] at h1; cases h1
  unfold Kont KontW
  cases T' with
  | ret =>
    intro pl' F' col' w' gm hgm hA hpj hsh hs
    refine core .nilFunc false pl' F' col' w' (by simp) (by simp) hA ?_ gm hgm
    have hst' : StAt a mv nxv false ov w' := hA.mv.ks.row hpS hst
    exact H pl' F' col' _ (desk _ true pl' F' col' w' hA fun s c h => by rw [hpj] at h; cases h) (ksAll _ _ pl' F' col' w' hA) ⟨hA.mv.colo, hA.mv.fo⟩ hA.pls ⟨hpj, stAt_laid2 hst' true⟩ (shAll _ _ pl' F' col' w' hA hs)
  | node kk φ c nx hl =>
    intro pl' F' col' w' gm t hgm hA oT oU oS hPo hs
    have hPo' := hPo
    obtain ⟨b3, homeJ, own, A, B, f, cap, q1, q2, q3, q4, q5, q6, q7, q8, q9, q10, q11, q12, q13, q14⟩ := hPo
    refine core t true pl' F' col' w' (by rw [q11.1]; simp) (by rw [q11.1]; simp) hA ?_ gm hgm
    have hst' : StAt a mv nxv false ov w' := hA.mv.ks.row hpS hst
    have hcp : col' a.p = .sys a.j := (hA.mv.colo _ (hL.lt (by rw [hO.cp]; simp))).trans hO.cp
    have hcm : col' a.m = .sys a.j := (hA.mv.colo _ (hL.lt (by rw [hO.cm]; simp))).trans hO.cm
    have hcU : col' a.cU = .sys a.j := (hA.mv.colo _ (hL.lt (by rw [hO.ccU]; simp))).trans hO.ccU
    have hcS : col' a.cS = .sys a.j := (hA.mv.colo _ (hL.lt (by rw [hO.ccS]; simp))).trans hO.ccS
    have hkl := ks_laid2 w' a.p t (.bool (!true))
    have hch : ∀ {x : Nat}, Open x w' → x ≠ a.p := fun {x} h e => by
      obtain ⟨q, hq⟩ := h
      unfold StAt at hst'
      rw [← e, hq] at hst'; cases hst'
    exact H pl' F' col' _ (desk _ _ pl' F' col' w' hA fun s x h hx => by
        rw [q1] at h
        obtain rfl := Option.some.inj h
        rcases turnSeat_has hx with rfl | rfl
        · exact hcU
        · exact hcS) (ksAll _ _ pl' F' col' w' hA) ⟨hA.mv.colo, hA.mv.fo⟩ hA.pls
      ⟨t, stAt_laid2 hst' false, oT.keep hkl (hch oT), oU.keep hkl (hch oU), oS.keep hkl (hch oS), hPo'.keep hA.lay ⟨_, _, _, hst'⟩ rfl hcm ⟨fun _ _ => rfl, fun _ _ => rfl⟩ fun b hb hc => hkl.block b hb fun e => by
        rcases hc with hc | hc
        · rw [show b = a.p from e, hcp] at hc; cases hc
        · exact hc.2 e⟩ (shAll _ _ pl' F' col' w' hA hs)

theorem three_size (W : World) (o1 o2 o3 : Obj) : (((W.alloc o1).alloc o2).alloc o3).heap.size = W.heap.size + 3 := by
  show (((W.heap.push o1).push o2).push o3).size = _
  rw [Array.size_push, Array.size_push, Array.size_push]
theorem three_first (W : World) (o1 o2 o3 : Obj) : (((W.alloc o1).alloc o2).alloc o3).heap[W.heap.size]? = some o1 := by
  have z1 : (W.alloc o1).heap.size = W.heap.size + 1 := Array.size_push _
  have z2 : ((W.alloc o1).alloc o2).heap.size = (W.alloc o1).heap.size + 1 := Array.size_push _
  rw [alloc_heap _ _ _ (by omega), alloc_heap _ _ _ (by omega)]
  exact alloc_new _ _
theorem three_second (W : World) (o1 o2 o3 : Obj) : (((W.alloc o1).alloc o2).alloc o3).heap[W.heap.size + 1]? = some o2 := by
  have z1 : (W.alloc o1).heap.size = W.heap.size + 1 := Array.size_push _
  have z2 : ((W.alloc o1).alloc o2).heap.size = (W.alloc o1).heap.size + 1 := Array.size_push _
  rw [alloc_heap _ _ _ (by omega), ← z1]
  exact alloc_new _ _
theorem three_third (W : World) (o1 o2 o3 : Obj) : (((W.alloc o1).alloc o2).alloc o3).heap[W.heap.size + 2]? = some o3 := by
  have z1 : (W.alloc o1).heap.size = W.heap.size + 1 := Array.size_push _
  have z2 : ((W.alloc o1).alloc o2).heap.size = (W.alloc o1).heap.size + 1 := Array.size_push _
  rw [show W.heap.size + 2 = ((W.alloc o1).alloc o2).heap.size by omega]
  exact alloc_new _ _
set_option maxHeartbeats 2000000 in
/-- NEW: the program goes on to its first touch, or to its end. -/
theorem new_goes (hSh : ∀ g, Priv SB (fun w => Sh w g)) (D : Desk SB pA rA pl F col w) (hn : 0 < n) (hpn : pl n = none) (hfresh : ∀ b, col b ≠ .sys n) {mt : TypeId} {mval : Value} {gf : FuncId} {cap : Array Value} {fn : Func} (hg : Try.prog.funcs[gf]? = some fn) (hgb : fn.body.isNone = false)
    {own0 : Nat → Prop} {A0 : World → Prop} (hP0 : Priv own0 A0) (hown0 : ∀ b, own0 b → col b = .ag n) (hA0 : A0 w) (hs : Sh w g) {g1 : G} {c₀ : Frame} {cs : List Frame}
    (hprog : ∀ a home pl' F' col' w' b1 b2, a.j = n → Acts SB pA rA a (.iface mt mval) home true false pl' F' col' w' → Boxed a b1 b2 w' → col' b1 = .ag n → col' b2 = .ag n → (∀ b, own0 b → col' b = .ag n) → A0 w' → Sh w' g → Kont Post Sh SB pA rA a (.iface mt mval) home (n + 1) T pl' F' col' w' g1 →
      Win Try.prog Post pl' (n + 1) a.j (gor (Frame.enter Try.prog gf (#[.iface 97 (.pointer (some ⟨a.m, 0, none⟩))] ++ cap) .normal) [runFr Try.prog Try.f36 a.p a.m b1 b2 gf cap, rootFr Try.prog]) w')
    (H : ∀ a pl' F' col' w', a.j = n → AgOK a F' col' → Desk SB pA rA pl' F' col' w' → Ks (fun b => col b = .ag n ∨ col b = .shared) w w' → Same F col w F' col' → (∀ i, i ≠ n → pl' i = pl i) → Stands Post Sh SB pA rA a (.iface mt mval) T pl' F' col' w' → Sh w' g1 → w.heap.size ≤ a.p →
      Win Try.prog Post pl' (n + 1) 0 (gor (c₀.finish (.tuple #[.pointer (some ⟨a.p, 0, none⟩), .int .i64 0])) cs) w') :
    Win Try.prog Post pl n 0 (gor (Frame.enter Try.prog 12 #[.iface mt mval, .func (.func gf) #[] cap] .normal) (c₀ :: cs)) w := by
  refine new_in D.lies fun C N => ?_
  have hold : ∀ i s x, pl i = some s → s.has x → x < w.heap.size ∧ col x = .sys i := fun i s x hi hx => by
    have h := D.own i s x hi hx
    exact ⟨D.lay.lt (by rw [h]; simp), h⟩
  have p1 := N.f1.1
  have p2 := N.f2.1
  have p3 := N.f3.1
  have pp := N.new
  have l1 := lt_of_block N.f1.2
  have l2 := lt_of_block N.f2.2
  have l3 := lt_of_block N.f3.2
  have lp := lt_of_block N.row
  have hp1 : C.p ≠ C.c1 := fun e => by have := N.row; rw [e, N.f1.2] at this; cases this
  have hp2 : C.p ≠ C.c2 := fun e => by have := N.row; rw [e, N.f2.2] at this; cases this
  have hp3 : C.p ≠ C.c3 := fun e => by have := N.row; rw [e, N.f3.2] at this; cases this
  have n12 := N.n12
  have n13 := N.n13
  have n23 := N.n23
  refine new_go N (fun i s' x hi hx => by have := (hold i s' x hi hx).1; omega) ?_
  obtain ⟨home, hhome⟩ : ∃ home : Goroutine → Prop, home = fun gg => gg = gor (waitFr Try.prog Try.f37 C.p C.c1) (newWait Try.prog Try.f12 (.iface mt mval) gf cap C :: c₀ :: cs) := ⟨_, rfl⟩
  rw [← hhome]
  have hFnew : ∀ b, w.heap.size ≤ b → F b = none := fun b hb => D.lay.free b (by rw [D.lay.above b hb]; rfl)
  have hL1 : Lies (Go.ConcN.upd pl 0 (some (waitSeat C.p C.c1 (fun _ _ => False) home))) (Go.ConcN.upd F C.p (some (1, 4))) C.w := by
    refine (N.lies.more (F' := Go.ConcN.upd F C.p (some (1, 4))) (fun i lo hi hi' => ?_) (fun i r hr => ?_)).put 0 (fun x hx => ?_) fun ad v hv => ?_
    · have hne : i ≠ C.p := fun e => by rw [e, hFnew _ pp] at hi'; cases hi'
      exact ⟨lo, hi, by rw [upd_ne _ _ hne]; exact hi', Nat.le_refl _, Nat.le_refl _⟩
    · by_cases e : i = C.p
      · subst e; exact ⟨_, _, N.row⟩
      · rw [upd_ne _ _ e] at hr; exact N.lies.lies i r hr
    · obtain rfl := waitSeat_has hx
      exact ⟨_, _, _, _, _, _, N.f1.2⟩
    · rcases hv with ⟨rfl, rfl⟩ | hv
      · exact ⟨1, 4, upd_same _ _ _, Nat.le_refl _, (by decide : 1 < 4)⟩
      · exact hv.elim
  refine prog_begins hL1 hg hgb fun m b1 b2 w' hm hb1 hb2 hw' => ?_
  have hz : w'.heap.size = C.w.heap.size + 3 := by
    rw [hw']
    show (World.setCell _ _ _).heap.size = _
    rw [show ∀ (W : World) ad x, (W.setCell ad x).heap.size = W.heap.size from fun W ad x => by simp [World.setCell]]
    exact three_size _ _ _ _
  have kn : Ks (fun _ => False) C.w w' := by
    rw [hw']
    refine (((ks_alloc _ C.w _).trans (ks_alloc _ _ _)).trans (ks_alloc _ _ _)).then (ks_setCell _ ⟨b2, 0, none⟩ _) fun b hb e => ?_
    have e' : b = b2 := e
    omega
  have hz3 := three_size C.w (.cells #[.pointer (some ⟨C.p, 0, none⟩)] 33) (.cells #[.pointer (some ⟨C.p, 0, none⟩), .bool true, .int .i64 0] 99) (.cells #[.pointer none] 97)
  have hmr : w'.heap[m]? = some (.cells #[.pointer (some ⟨C.p, 0, none⟩), .bool true, .int .i64 0] 99 (0, 0)) := by
    rw [hw', (ks_setCell _ ⟨b2, 0, none⟩ _).block m (by rw [hz3]; omega) (by show ¬ m = b2; omega), hm]
    exact three_second _ _ _ _
  have hb1r : w'.heap[b1]? = some (.cells #[.pointer (some ⟨C.p, 0, none⟩)] 33 (0, 0)) := by
    rw [hw', (ks_setCell _ ⟨b2, 0, none⟩ _).block b1 (by rw [hz3]; omega) (by show ¬ b1 = b2; omega), hb1]
    exact three_first _ _ _ _
  have hb2r : w'.heap[b2]? = some (.cells #[.pointer (some ⟨m, 0, none⟩)] 97 (0, 0)) := by
    have h0 := three_third C.w (.cells #[.pointer (some ⟨C.p, 0, none⟩)] 33) (.cells #[.pointer (some ⟨C.p, 0, none⟩), .bool true, .int .i64 0] 99) (.cells #[.pointer none] 97)
    rw [← hb2] at h0
    have := heap_setCell_same _ b2 0 _ _ (.pointer (some ⟨m, 0, none⟩)) h0
    rw [hw', this]
    simp
  have hLw : Lies (Go.ConcN.upd pl 0 (some (waitSeat C.p C.c1 (fun _ _ => False) home))) (Go.ConcN.upd F C.p (some (1, 4))) w' := by
    rw [hw']; exact (((hL1.alloc _).alloc _).alloc _).setCell _ _
  clear hw' hL1
  obtain ⟨a, ha⟩ : ∃ a : Ag, a = ⟨n, C.p, C.c1, C.c2, C.c3, m⟩ := ⟨_, rfl⟩
  obtain ⟨F2, hF2⟩ : ∃ F2 : Nat → Option (Nat × Nat), F2 = Go.ConcN.upd (Go.ConcN.upd F C.p (some (1, 4))) m (some (0, 1)) := ⟨_, rfl⟩
  obtain ⟨col2, hc2⟩ : ∃ col2 : Nat → Col, col2 = fun b => if b = C.p ∨ b = C.c1 ∨ b = C.c2 ∨ b = C.c3 ∨ b = m then .sys n else if b = b1 ∨ b = b2 then .ag n else col b := ⟨_, rfl⟩
  have hFo : ∀ b, b < w.heap.size → F2 b = F b := fun b hb => by rw [hF2, upd_ne _ _ (by have := N.ks.size; omega), upd_ne _ _ (by omega)]
  have hco : ∀ b, b < w.heap.size → col2 b = col b := fun b hb => by
    have := N.ks.size
    rw [hc2]; show (if _ then _ else _) = _; rw [if_neg (by omega), if_neg (by omega)]
  have hsysn : ∀ b, (b = C.p ∨ b = C.c1 ∨ b = C.c2 ∨ b = C.c3 ∨ b = m) → col2 b = .sys n := fun b hb => by rw [hc2]; show (if _ then _ else _) = _; rw [if_pos hb]
  have hagn : ∀ b, (b = b1 ∨ b = b2) → col2 b = .ag n := fun b hb => by rw [hc2]; show (if _ then _ else _) = _; rw [if_neg (by omega), if_pos hb]
  have hL2 : Lies (Go.ConcN.upd pl 0 (some (waitSeat C.p C.c1 (fun _ _ => False) home))) F2 w' := by
    rw [hF2]
    refine hLw.more (fun i lo hi hi' => ?_) (fun i r hr => ?_)
    · have hne : i ≠ m := fun e => by rw [e, upd_ne _ _ (by omega), hFnew _ (by have := N.ks.size; omega)] at hi'; cases hi'
      exact ⟨lo, hi, by rw [upd_ne _ _ hne]; exact hi', Nat.le_refl _, Nat.le_refl _⟩
    · by_cases e : i = m
      · subst e; exact ⟨_, _, hmr⟩
      · rw [upd_ne _ _ e] at hr; exact hLw.lies i r hr
  have hks := N.ks.size
  have hLay : Lay SB pA rA col2 F2 w' := by
    have hne0 : ∀ b, col2 b ≠ .main → b < w'.heap.size := fun b hb => by
      rcases Nat.lt_or_ge b w'.heap.size with z | z
      · exact z
      · exact absurd (by rw [hc2]; show (if _ then _ else _) = _; rw [if_neg (by omega), if_neg (by omega)]; exact D.lay.above b (by omega)) hb
    refine ⟨fun b hb => ?_, fun b hb => ?_, fun b hb => ?_, ?_, ?_⟩
    · have hnp : b ≠ C.p := fun e => by rw [hsysn b (.inl e)] at hb; cases hb
      have hnm : b ≠ m := fun e => by rw [hsysn b (.inr (.inr (.inr (.inr e))))] at hb; cases hb
      rw [hF2, upd_ne _ _ hnm, upd_ne _ _ hnp]
      rcases Nat.lt_or_ge b w.heap.size with z | z
      · rw [hco b z] at hb; exact D.lay.free b hb
      · exact hFnew b z
    · rw [hc2]; show (if _ then _ else _) = _; rw [if_neg (by omega), if_neg (by omega)]; exact D.lay.above b (by omega)
    · exact (hco b (D.lay.lt (by rw [D.lay.sb b hb]; simp))).trans (D.lay.sb b hb)
    · exact (hco _ (D.lay.lt (by rw [D.lay.ar.1]; simp))).trans D.lay.ar.1
    · exact (hco _ (D.lay.lt (by rw [D.lay.ar.2]; simp))).trans D.lay.ar.2
  have hO : AgOK a F2 col2 := by
    rw [ha]
    exact ⟨hn, by rw [hF2]; exact upd_same _ _ _, by rw [hF2, upd_ne _ _ (by show C.p ≠ m; omega)]; exact upd_same _ _ _, hsysn _ (.inr (.inr (.inr (.inr rfl)))), hsysn _ (.inl rfl), hsysn _ (.inr (.inl rfl)), hsysn _ (.inr (.inr (.inl rfl))), hsysn _ (.inr (.inr (.inr (.inl rfl)))), n12, n13, n23⟩
  have hSt : StAt a (.iface mt mval) .nilFunc false false w' := by
    rw [ha]; exact kn.row (fun z => z) N.row
  have hMe : MeAt a true 0 w' := by rw [ha]; exact hmr
  have hT : Open a.cT w' := by rw [ha]; exact ⟨0, kn.row (fun z => z) N.f1.2⟩
  have hU : Open a.cU w' := by rw [ha]; exact ⟨0, kn.row (fun z => z) N.f2.2⟩
  have hS : Open a.cS w' := by rw [ha]; exact ⟨0, kn.row (fun z => z) N.f3.2⟩
  have hB : Boxed a b1 b2 w' := by rw [ha]; exact ⟨hb1r, hb2r⟩
  have hkw : Ks (fun _ => False) w w' := N.ks.trans kn
  have hj : a.j = n := by rw [ha]
  have hap : a.p = C.p := by rw [ha]
  have haT : a.cT = C.c1 := by rw [ha]
  have haU : a.cU = C.c2 := by rw [ha]
  have haS : a.cS = C.c3 := by rw [ha]
  have ham : a.m = m := by rw [ha]
  have hActs : Acts SB pA rA a (.iface mt mval) home true false (Go.ConcN.upd pl 0 (some (waitSeat C.p C.c1 (fun _ _ => False) home))) F2 col2 w' := by
    refine ⟨hO.jpos, hL2, hLay, ⟨fun _ _ => False, by rw [hap, haT]; exact upd_same _ _ _⟩, ?_, ?_, ⟨_, _, hSt⟩, hMe, hO.fm, hO.fp, hO.cm, hO.cp, hO.ccT, hO.ccU, hO.ccS, hO.dis, hT, hU, fun _ => hS⟩
    · rw [hj, upd_ne _ _ (by omega)]; exact hpn
    · intro i s' hi
      by_cases e0 : i = 0
      · subst e0
        rw [upd_same] at hi
        obtain rfl := Option.some.inj hi
        exact ⟨fun h => by have := waitSeat_has h; rw [haU] at this; exact n12 this.symm, fun h => by have := waitSeat_has h; rw [haS] at this; exact n13 this.symm⟩
      · rw [upd_ne _ _ e0] at hi
        exact ⟨fun h => by have := (hold i s' _ hi h).1; omega, fun h => by have := (hold i s' _ hi h).1; omega⟩
  rw [← hap, ← ham]
  have hfin := hprog a home _ F2 col2 w' b1 b2 hj hActs hB (hagn _ (.inl rfl)) (hagn _ (.inr rfl)) (fun b hb => (hco b (hP0.lt _ _ hA0 hb)).trans (hown0 b hb)) (hP0.st _ _ hA0 fun b hb => hkw.block b (hP0.lt _ _ hA0 hb) fun z => z) ((hSh g).st _ _ hs fun b hb => hkw.block b ((hSh g).lt _ _ hs hb) fun z => z) ?_
  · rw [hj] at hfin; rw [hap] at hfin ⊢; exact hfin
  · refine wait_ends (c₀ := c₀) (cs := cs) (ans := .tuple #[.pointer (some ⟨a.p, 0, none⟩), .int .i64 0]) hSh hO hLay hSt ?_ ?_ ?_
    · intro gm pl' w'' x y next ok hgm h4 h6 f4 f6 hn1 hn2 F4 F6 hW
      rw [hhome] at hgm
      subst hgm
      rw [hap] at h4 h6 f4 f6 F4 F6 hW
      exact new_back h4 h6 f4 f6 hn1 hn2 F4 F6 hW
    · intro i s x e0 ej hi hx
      rw [upd_ne _ _ e0] at hi
      obtain ⟨h1, h2⟩ := hold i s x hi hx
      exact ⟨by omega, (hco x h1).trans h2⟩
    · intro pl' F' col' w'' hD' hk'' hS'' hpl'' hst'' hsh''
      refine H a pl' F' col' w'' hj (hO.keep hLay hS'') hD' ?_ ⟨fun b hb => (hS''.co b (by omega)).trans (hco b hb), fun b hb => (hS''.fo b (by omega)).trans (hFo b hb)⟩ (fun i ei => ?_) hst'' hsh'' (by rw [hap]; exact pp)
      · refine (hkw.mono fun b hb z => z.elim).then hk'' fun b hb z => ?_
        rcases z with z | z
        · unfold mine at z
          rw [hco b hb, hj] at z
          rcases z with z | z | z
          · exact .inl z
          · exact absurd z.1 (hfresh b)
          · exact .inr z
        · omega
      · by_cases e0 : i = 0
        · subst e0; rw [hD'.pl0, D.pl0]
        · exact (hpl'' i e0 (by rw [hj]; exact ei)).trans (upd_ne _ _ e0)
end
end Go.Proofs.Ytdingbkgkofanaa
