/- The law's own program, from its begin; who steps: Done; Step, Stop and New where there is none to step. Written by gen/ah_h.py. Conditions: as each theorem states them. -/
import Derived.Test.YtdingbkgkofanaaAhG
namespace Go.Proofs.Ytdingbkgkofanaa
set_option linter.unusedVariables false
set_option linter.unusedSimpArgs false
set_option maxRecDepth 100000
open Go.Conc Go.RowKit
open Go.ConcN (upd_ne upd_same)

section
variable {G : Type} {Post : Value → World → Prop} {Sh : World → G → Prop} {SB : Nat → Prop} {pA rA : Nat} {a : Ag} {mv : Value} {home : Goroutine → Prop} {n : Nat} {T : Tree G} {runs ov : Bool}
variable {pl : Nat → Option Place} {F : Nat → Option (Nat × Nat)} {col : Nat → Col} {w : World} {g : G}

/-- THE PROGRAM. -/
theorem prog_runs (hSh : ∀ g, Priv SB (fun w => Sh w g)) (hmv : mv = memV pA) {bl bp ba oa cp bq oq b1 b2 : Nat} {l : List (Int × Int × Int)} {lst : G → Int} {setL : Int → G → G} {own : Nat → Prop} {A : World → Prop} {gf : FuncId} {cap : Array Value}
    (hP : Priv own A) (hrd : ∀ w g, A w → Sh w g → w.cell? ⟨bl, 0, none⟩ = some (.slice (some ⟨ba, oa, none⟩) l.length cp) ∧ w.cell? ⟨bp, 0, none⟩ = some (.pointer (some ⟨bq, oq, none⟩)) ∧ w.cell? ⟨bq, oq, none⟩ = some (.int .u64 (lst g)) ∧ w.frozen? ⟨bq, oq, none⟩ = false ∧
      ∀ i d k v, l[i]? = some (d, k, v) → w.cell? ⟨ba, oa + 3 * i, none⟩ = some (.int .u8 d) ∧ w.cell? ⟨ba, oa + 3 * i + 1, none⟩ = some (.int .i64 k) ∧ w.cell? ⟨ba, oa + 3 * i + 2, none⟩ = some (.int .u64 v))
    (hwr : ∀ w g v, A w → Sh w g → A (w.setCell ⟨bq, oq, none⟩ (.int .u64 v)) ∧ Sh (w.setCell ⟨bq, oq, none⟩ (.int .u64 v)) (setL v g)) (hlst : ∀ v g, lst (setL v g) = v) (hsq : SB bq) (hbox : ∀ w, A w → Boxed a b1 b2 w) (hlen : l.length < 1073741824)
    (hA : Acts SB pA rA a mv home true false pl F col w) (hown : ∀ b, own b → col b = .ag a.j) (hAw : A w) (hs : Sh w g) (K0 : Kont Post Sh SB pA rA a mv home n (ptree lst setL l (lst g)) pl F col w g) :
    Win Try.prog Post pl n a.j (gor (Frame.enter Try.prog 38 (#[.iface 97 (.pointer (some ⟨a.m, 0, none⟩))] ++ #[.pointer (some ⟨bl, 0, none⟩), .pointer (some ⟨bp, 0, none⟩)]) .normal) [runFr Try.prog Try.f36 a.p a.m b1 b2 gf cap, rootFr Try.prog]) w := by
  have hb : (Frame.enter Try.prog 38 (#[.iface 97 (.pointer (some ⟨a.m, 0, none⟩))] ++ #[.pointer (some ⟨bl, 0, none⟩), .pointer (some ⟨bp, 0, none⟩)]) .normal).kind = .normal := rfl
  have hloop := prog_loop (Post := Post) (args := #[.iface 97 (.pointer (some ⟨a.m, 0, none⟩))] ++ #[.pointer (some ⟨bl, 0, none⟩), .pointer (some ⟨bp, 0, none⟩)]) (gf := gf) (cap := cap) hSh hmv hP hrd hwr hlst hsq hbox hlen _ rfl l 0 rfl (Nat.zero_le _) (fun j => match j with | 0 => .iface 97 (.pointer (some ⟨a.m, 0, none⟩)) | 1 => .pointer (some ⟨bl, 0, none⟩) | 2 => .pointer (some ⟨bp, 0, none⟩) | 4 => .int .i64 0 | _ => undef) home n pl F col w g rfl rfl rfl rfl hA hown hAw hs K0
  rw [enter_at Try.func38 rfl]
  simp only [Try.ntmps38, List.size_toArray, List.length_cons, List.length_nil, Nat.reduceAdd, Nat.reduceSub, Array.replicate_succ, Array.replicate_zero, List.push_toArray, List.append_toArray, List.nil_append, List.cons_append] at hb ⊢
  refine Win.seq ?_
  refine Win.region ?_
  simp only [List.size_toArray, List.length_cons, List.length_nil, Nat.reduceAdd, List.range, List.range.loop]
  refine Win.pureOp (v := .int .i64 0) (.inl hb) rfl rfl (fun w => rfl) ?_
  simp only [Act.put, Act.eval, List.getElem_toArray, List.getElem_cons_zero, List.getElem_cons_succ, List.setIfInBounds_toArray, List.set_cons_succ, List.set_cons_zero]
  refine Win.opsEnd ?_
  refine Win.block ?_
  refine Win.loop ?_
  exact hloop
end

theorem done_at (w : World) (p : Nat) (o : Bool) (h : w.cell? ⟨p, 6, none⟩ = some (.bool o)) : Calls Try.prog 17 #[.pointer (some ⟨p, 0, none⟩)] w fun e w' => e = .returned (.bool o) ∧ w' = w := by
  go_enter Try.func17, Try.ntmps17
  go_wp2
  simp [bodyPost, results, Try.results17]
theorem done_nil (w : World) : Calls Try.prog 17 #[.pointer none] w fun e w' => e = .returned (.bool true) ∧ w' = w := by
  go_enter Try.func17, Try.ntmps17
  go_wp2
  simp [bodyPost, results, Try.results17]
theorem stop_nil (w : World) : Calls Try.prog 19 #[.pointer none] w fun e w' => e = .returned (.tuple #[]) ∧ w' = w := by
  go_enter Try.func19, Try.ntmps19
  go_wp2_with (go_at_call 17; refine (done_nil _).mono ?_; rintro e w1 ⟨rfl, rfl⟩)
  simp [bodyPost, results, Try.results19]
theorem new_nil_mem (w : World) (f : Value) : Calls Try.prog 12 #[.nilIface, f] w fun e w' => e = .returned (.tuple #[.pointer none, .int .i64 1]) ∧ w' = w := by
  go_enter Try.func12, Try.ntmps12
  go_wp2
  simp [bodyPost, results, Try.results12]
theorem new_nil_run (w : World) (t : TypeId) (v : Value) : Calls Try.prog 12 #[.iface t v, .nilFunc] w fun e w' => e = .returned (.tuple #[.pointer none, .int .i64 1]) ∧ w' = w := by
  have hnn : ∀ w, (binOp .eql 36 .nilFunc .nilFunc).run Try.prog w = .ok (.bool true) w := fun w => rfl
  go_enter Try.func12, Try.ntmps12
  go_wp2
  simp [bodyPost, results, Try.results12]
theorem step_nil (w : World) : Calls Try.prog 16 #[.pointer none] w fun e w' => e = .returned (.int .i64 1) ∧ Kp [] w w' := by
  go_enter Try.func16, Try.ntmps16
  go_wp2
  simp [bodyPost, results, Try.results16]
  exact (Kp.refl [] w).alloc _
theorem step_over (w : World) (p : Nat) (h6 : w.cell? ⟨p, 6, none⟩ = some (.bool true)) : Calls Try.prog 16 #[.pointer (some ⟨p, 0, none⟩)] w fun e w' => e = .returned (.int .i64 6) ∧ Kp [] w w' := by
  have hlt : p < w.heap.size := World.block_lt_of_cell? _ _ h6
  have h6' := alloc_cell w (.cells #[.pointer (some ⟨p, 0, none⟩)] 33) h6
  go_enter Try.func16, Try.ntmps16
  go_wp2
  simp [bodyPost, results, Try.results16]
  exact (Kp.refl [] w).alloc _
theorem program_makes (w : World) (la qa : Addr) (n c : Nat) : Calls Try.prog 13 #[.slice (some la) n c, .pointer (some qa)] w fun e w' => e = .returned (.func (.func 38) #[] #[.pointer (some ⟨w.heap.size, 0, none⟩), .pointer (some ⟨w.heap.size + 1, 0, none⟩)]) ∧ w' = (w.alloc (.cells #[.slice (some la) n c] 38)).alloc (.cells #[.pointer (some qa)] 39) := by
  go_enter Try.func13, Try.ntmps13
  go_wp2
  simp [bodyPost, results, Try.results13]
end Go.Proofs.Ytdingbkgkofanaa
