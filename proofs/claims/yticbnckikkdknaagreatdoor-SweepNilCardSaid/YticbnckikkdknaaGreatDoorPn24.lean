/- MarkRoom, plainly: each object is a place; what is marked is what is led to. Law 19's heap: Made, walked: a heap of things to which more happened. Law 19: the known heap, swept: its wake. SweepNil, its walk. The package's table, as the rows of layer class list it: what it gives a walk, and a world that holds it. Conditions: none. Conditions: as each theorem states them. -/
import Derived.Test.YticbnckikkdknaaGreatDoorCards
import Derived.Test.YticbnckikkdknaaGreatDoorTie
import Derived.WalkKit
import Derived.ProofKit
import Derived.OpenShut
import Derived.Deep.DeepHandedRow
import Derived.Lib.LaidTab
import Derived.Test.YticbnckikkdknaaGreatDoorPn01
import Derived.Test.YticbnckikkdknaaGreatDoorPn04
import Derived.Test.YticbnckikkdknaaGreatDoorPn13
import Derived.Test.YticbnckikkdknaaGreatDoorPn23
namespace Go.Proofs.YticbnckikkdknaaGreatDoor
set_option linter.unusedVariables false
set_option linter.unusedSimpArgs false
set_option maxRecDepth 100000
open Go.RowKit
section
variable {T n : Nat}
theorem makes_good2 (hT : 1 ≤ T) (hT4 : T ≤ 4) (hn : n ≤ 12) (l : List Th) : ∀ k, ∃ O, Cel T n (makesN T n l k).1.H (makesN T n l k).1.Rs O ∧ Pls O (makesN T n l k).2 ∧ (makesN T n l k).2.length = k ∧ ∀ y : Nat, (O y).isSome = true → (y : Int) ∈ (makesN T n l k).2
  | 0 => ⟨_, cel_begin hT hn, fun v hv => absurd hv (by simp [makesN]), rfl, fun y hy => by cases hy⟩
  | k + 1 => by
    obtain ⟨O, h1, h2, h3, h4⟩ := makes_good2 hT hT4 hn l k
    rw [makesN]
    generalize makesN T n l k = y at *
    generalize l.getD k Th0 = x
    have hi : x.ow % T < T := Nat.mod_lt _ (by omega)
    have hsz : szO x ≤ 95 := by unfold szO; omega
    have hrf : rfO x ≤ szO x := by
      have := Nat.mod_lt x.rf (show 0 < x.sz % 40 + 1 by omega)
      unfold rfO szO; omega
    unfold makeS madeS
    rcases h1.make (wk := y.1.wk (x.ow % T)) hi (by omega) (by omega) hrf hsz with ⟨e, h⟩ | ⟨a, e, hO, h⟩
    · refine ⟨O, h, fun v hv => ?_, by simp [h3], fun z hz => List.mem_append_left _ (h4 z hz)⟩
      simp only [List.mem_append, List.mem_singleton] at hv
      rcases hv with hv | rfl
      · exact h2 v hv
      · rw [e]; exact .inl rfl
    · refine ⟨_, h, fun v hv => ?_, by simp [h3], fun z hz => ?_⟩
      · simp only [List.mem_append, List.mem_singleton] at hv
        rcases hv with hv | rfl
        · rcases h2 v hv with q | ⟨z, q1, q2⟩
          · exact .inl q
          · refine .inr ⟨z, q1, ?_⟩
            by_cases ez : z = a
            · subst ez; rw [hO] at q2; cases q2
            · rw [setOb_ne ez]; exact q2
        · rw [e]; exact .inr ⟨a, rfl, by rw [setOb_same]; rfl⟩
      · by_cases ez : z = a
        · subst ez
          refine List.mem_append_right _ ?_
          rw [e]; simp
        · rw [setOb_ne ez] at hz
          exact List.mem_append_left _ (h4 z hz)
theorem heap_good2 (hT : 1 ≤ T) (hT4 : T ≤ 4) (hn : n ≤ 12) (l : List Th) : ∃ O V F, Gd T n (kidsN (makesN T n l l.length).2 l (makesN T n l l.length).1.H l.length) (makesN T n l l.length).1.Rs O V F ∧ Pls O (makesN T n l l.length).2 ∧ ∀ y : Nat, (O y).isSome = true → (y : Int) ∈ (makesN T n l l.length).2 := by
  obtain ⟨O, h1, h2, h3, h4⟩ := makes_good2 hT hT4 hn l l.length
  obtain ⟨V, F, h⟩ := (Gd.of h1).kids (by omega) h2 l l.length (by omega)
  exact ⟨O, V, F, h, h2, h4⟩
end
/-- What is led to by the first i things that are marked. -/
def LdP (G : Gp) (M : Nat → Bool) (R : List Nat) (P : List Int) (i : Nat) (z : Nat) : Prop := z ∈ R ∨ ∃ j, j < i ∧ ∃ x : Nat, P.getD j 0 = x ∧ x ≠ 0 ∧ M x = true ∧ z ∈ G.ref x
section
variable {T n : Nat} {H : List Int} {Rs : Nat → Nat → List Int} {O : Obs} {V : Nat → Int} {F : Nat → Nat → Int} {o : Nat} {tel : Bool} {M : Nat → Bool} {R : List Nat} {P : List Int}
theorem LdP.skip {G : Gp} {i : Nat} (h : P.getD i 0 = 0 ∨ ∃ x : Nat, P.getD i 0 = x ∧ M x = false) (z : Nat) : LdP G M R P (i + 1) z ↔ LdP G M R P i z := by
  unfold LdP
  constructor
  · rintro (h1 | ⟨j, hj, x, e, h0, hM, hz⟩)
    · exact .inl h1
    · by_cases ej : j = i
      · subst ej
        rcases h with h | ⟨x', e', hM'⟩
        · rw [h] at e; omega
        · have : x = x' := by exact_mod_cast e.symm.trans e'
          rw [this, hM'] at hM; cases hM
      · exact .inr ⟨j, by omega, x, e, h0, hM, hz⟩
  · rintro (h1 | ⟨j, hj, r⟩)
    · exact .inl h1
    · exact .inr ⟨j, by omega, r⟩
end
section
variable {B T n sp hb : Nat} {P : List Int} {W W' : World} {S : List Nat}
end
section
variable {T n o rm B t0 bx mb g M : Nat} {H : List Int} {Rs : Nat → Nat → List Int} {O : Obs} {V : Nat → Int} {F : Nat → Nat → Int} {P : List Int} {W4 wq : World} {fr : List Nat} {ao5 : Option Addr} {c5 : Nat}
end
section
variable {T n B sp hb : Nat} {P : List Int} {W : World}
end
end Go.Proofs.YticbnckikkdknaaGreatDoor

namespace Go.Proofs.YticbnckikkdknaaGreatDoor
set_option linter.unusedVariables false
set_option linter.unusedSimpArgs false
set_option maxRecDepth 100000
open Go.RowKit

/-- A word, marked. -/
def mkw (v : Int) : Int := Wd.wordI (v % 4) (v / 4 % 2) (v / 32 % 64) (v / 2048 % 128) (v / 262144 % 128) (v / 8 % 2 == 1) true
/-- A thing is marked, if it is Local; it is Free, if it is Global, and small. -/
def mk1 (P : List Int) (H : List Int) (m : Nat) : List Int :=
  if 0 < atP P m ∧ Wd.takeB (H.getD (atP P m).toNat 0) = true ∧ H.getD (atP P m).toNat 0 % 4 = 2 then H.set (atP P m).toNat (mkw (H.getD (atP P m).toNat 0)) else H
def fr1 (P : List Int) (H : List Int) (m : Nat) : List Int :=
  if 0 < atP P m ∧ Wd.takeB (H.getD (atP P m).toNat 0) = true ∧ H.getD (atP P m).toNat 0 % 4 = 3 ∧ H.getD (atP P m).toNat 0 / 262144 % 128 < 9 then H.set (atP P m).toNat (Wd.wordI 0 0 (H.getD (atP P m).toNat 0 / 32 % 64) 0 0 false false) else H
def mkS (P : List Int) (l : List Nat) (H : List Int) : Nat → List Int
  | 0 => H
  | i + 1 => mk1 P (mkS P l H i) (l.getD i 0)
def frS (P : List Int) (l : List Nat) (H : List Int) : Nat → List Int
  | 0 => H
  | i + 1 => fr1 P (frS P l H i) (l.getD i 0)
/-- Where things lie. -/
def Pin (T n : Nat) (P : List Int) : Prop := ∀ m, atP P m = 0 ∨ (((3 + T + n : Nat) : Int) ≤ atP P m ∧ atP P m < ((3 + T + 33 * n : Nat) : Int))
theorem pin_of {T n : Nat} {H : List Int} {Rs : Nat → Nat → List Int} {O : Obs} {V : Nat → Int} {F : Nat → Nat → Int} {P : List Int} (h : Gd T n H Rs O V F) (hP : Pls O P) : Pin T n P := fun m => by
  rcases atP_ok hP m with e | ⟨y, e, hy⟩
  · exact .inl e
  · right
    cases hO : O y with
    | none => rw [hO] at hy; cases hy
    | some z =>
      obtain ⟨o, rf, sz⟩ := z
      have := h.hp.inn hO
      have hl := h.hp.len
      rw [e]
      unfold hd at this
      omega
theorem mkw_in {v : Int} (h0 : 0 ≤ v) (ht : Wd.takeB v = true) (hk : v % 4 = 2) : Wd.mayB (v % 4) (v / 4 % 2) (v / 32 % 64) (v / 2048 % 128) (v / 262144 % 128) (v / 8 % 2 == 1) true = true ∧ 0 ≤ mkw v ∧ mkw v < 18446744073709551616 := by
  have hb : Wd.mayB (v % 4) (v / 4 % 2) (v / 32 % 64) (v / 2048 % 128) (v / 262144 % 128) (v / 8 % 2 == 1) (v / 16 % 2 == 1) = true := by
    unfold Wd.takeB at ht
    simp only [Bool.and_eq_true] at ht
    exact ht.2
  have h2 := Wd.mayB_iff.1 hb
  have hm : Wd.mayB (v % 4) (v / 4 % 2) (v / 32 % 64) (v / 2048 % 128) (v / 262144 % 128) (v / 8 % 2 == 1) true = true := Wd.mayB_iff.2 ⟨h2.1, h2.2.1, h2.2.2.1, h2.2.2.2.1, h2.2.2.2.2.1, h2.2.2.2.2.2.1, fun h => by omega, fun h => by omega⟩
  have hl := Wd.word_lt _ _ _ _ _ _ _ (by omega) (by omega) (by omega) (by omega) (by omega) hm
  exact ⟨hm, hl.1, by unfold mkw; omega⟩
section
variable {T n : Nat} {P H : List Int} {l : List Nat}
end

section
variable {B T n sp hb t : Nat} {qs : Nat → Nat} {S : As} {P : List Int} {w W : World}
/-- What a heap says of its words, and takes. -/
theorem Hm.fits (h : Hm B T n sp hb qs S P t w W) : Fit T n S.H S.Rs := by
  obtain ⟨v, col, pv, hA, _⟩ := h.ex
  exact hA.fit
theorem Hm.more (h : Hm B T n sp hb qs S P t w W) {t' : Nat} (ht : t ≤ t') : Hm B T n sp hb qs S P t' w W := by
  obtain ⟨v, col, pv, hA, h1, h2, h3, h4, h5⟩ := h.ex
  exact ⟨⟨v, col, pv, hA.more ht, h1, h2, h3, h4, h5⟩, h.ge, h.bel⟩
theorem Hm.box (h : Hm B T n sp hb qs S P t w W) : ∃ pv, W.heap[hb]? = some (.cells #[.pointer (some ⟨sp, 0, none⟩), pv] 48 (0, 0)) := by
  obtain ⟨v, col, pv, hA, hLo, hbx, hpv, hpc, hcb⟩ := h.ex
  exact ⟨pv, hbx⟩
end

set_option maxHeartbeats 16000000 in
theorem made19 (HMd : Hid CMade) (w : World) (T0 : Cl.Tab w) (n T : Nat) (hn1 : 1 ≤ n) (hn2 : n ≤ 12) (hT1 : 1 ≤ T) (hT4 : T ≤ 4) (ao a1 a2 : Option Addr) (cap c1 c2 : Nat) (l : List Th) (hl : l.length ≤ 60) (hA : Tgs w ao l) (l1 l2 : List Nat) (hl1 : l1.length ≤ 60) (hN1 : Nms w a1 l1) (hl2 : l2.length ≤ 60) (hN2 : Nms w a2 l2) (S : As) (hS : S = { (makesN T n l l.length).1 with H := kidsN (makesN T n l l.length).2 l (makesN T n l l.length).1.H l.length }) (P : List Int) (hP : P = (makesN T n l l.length).2) :
    Calls Tryz.prog 17 #[.int .u8 n, .int .u8 T, .slice ao l.length cap, .agg #[.slice a1 l1.length c1, .slice a2 l2.length c2]] w fun e w' => ∃ sp hb qs t, t ≤ 100200 ∧ e = .returned (.tuple #[.pointer (some ⟨hb, 0, none⟩), .bool true]) ∧ Hm (w.heap.size + 1) T n sp hb qs { S with H := frS P l2 (mkS P l1 S.H l1.length) l2.length } P t (w.alloc (.cells #[.slice a1 l1.length c1, .slice a2 l2.length c2] 64)) w' := by
  obtain ⟨O, V, F, hG, hPl, -⟩ := heap_good2 (T := T) (n := n) hT1 hT4 hn2 l
  have hPin := pin_of hG hPl
  rw [← hP] at hPin
  have hPlen : P.length ≤ 200 := by rw [hP, makesN_len]; omega
  have kA : Kp [] w (w.alloc (.cells #[.slice a1 l1.length c1, .slice a2 l2.length c2] 64)) := (Kp.refl _ _).alloc _
  have hma := HMd.out _ T n (tab_keep T0 kA (by simp)) hn1 hn2 hT1 hT4 ao cap l hl (hA.keep kA)
  rw [← hP] at hma
  rw [show ({ (makesN T n l l.length).1 with H := kidsN P l (makesN T n l l.length).1.H l.length } : As) = S by rw [hS, hP]] at hma
  have rd := heap_alloc_new w (.cells #[.slice a1 l1.length c1, .slice a2 l2.length c2] 64)
  have hN1' := hN1.keep kA
  have hN2' := hN2.keep kA
  obtain ⟨w1, hw1⟩ : ∃ w1, w1 = w.alloc (.cells #[.slice a1 l1.length c1, .slice a2 l2.length c2] 64) := ⟨_, rfl⟩
  have hz1 : w1.heap.size = w.heap.size + 1 := by rw [hw1]; exact World.size_alloc _ _
  rw [← hw1] at hma rd hN1' hN2'
  rw [hz1] at hma
  rw [← hw1]
  obtain ⟨m1, hm1⟩ : ∃ m1, m1 = l1.length := ⟨_, rfl⟩
  obtain ⟨m2, hm2⟩ : ∃ m2, m2 = l2.length := ⟨_, rfl⟩
  obtain ⟨mm, hmm⟩ : ∃ mm, mm = l.length := ⟨_, rfl⟩
  rw [← hm1] at rd hl1 hw1
  rw [← hm2] at rd hl2 hw1
  rw [← hmm] at hma
  rw [← hm1, ← hm2, ← hmm]
  obtain ⟨db, hdb⟩ : ∃ db, db = w.heap.size := ⟨_, rfl⟩
  obtain ⟨B, hB⟩ : ∃ B, B = w.heap.size + 1 := ⟨_, rfl⟩
  rw [← hdb] at rd
  rw [← hB] at hma hz1
  rw [← hB]
  have HMa := Lib.hid hma
  have HN := Lib.hid (And.intro hN1' (And.intro hN2' (And.intro rd (show db < w1.heap.size by omega))))
  have HLm := Lib.hid (And.intro hm1 hm2)
  have HPi := Lib.hid (And.intro hPin hPlen)
  have HNn := Lib.hid (And.intro hn1 (And.intro hn2 (And.intro hT1 hT4)))
  have HB := Lib.hid hz1
  clear hG hPl hPin hPlen kA hma rd hN1' hN2' hm1 hm2 hmm hB hz1 hn1 hn2 hT1 hT4 hA hN1 hN2 hS hP hl T0 HMd
  -- what stands below the heap
  have HBel : Hid (∀ {sp hb t : Nat} {qs : Nat → Nat} {S' : As} {wq : World}, Hm B T n sp hb qs S' P t w1 wq → wq.heap[db]? = some (.cells #[.slice a1 m1 c1, .slice a2 m2 c2] 64 (0, 0)) ∧ Nms wq a1 l1 ∧ Nms wq a2 l2) := Lib.hid fun hm => by
    have k := kp_of_below (HB.out ▸ hm.bel)
    exact ⟨k.row (by simp) HN.out.2.2.1, HN.out.1.keep k, HN.out.2.1.keep k⟩
  go_enter Tryz.func17, Tryz.ntmps17
  go_upto_region 1 with (fail)
  rw [← hw1, ← hdb]
  clear hw1 hdb
  go_wp2_with fail
  refine HMa.out.mono ?_
  rintro e w2 ⟨sp, hb, qs, t, ht, rfl, hm⟩
  have HM2 := Lib.hid (And.intro ht hm)
  obtain ⟨rd, -, -⟩ := HBel.out hm
  have d0 := (cell_of_row rd 0).trans (show _ = some (.slice a1 m1 c1) from rfl)
  have d1 := (cell_of_row rd 1).trans (show _ = some (.slice a2 m2 c2) from rfl)
  clear rd ht hm HMa d0 d1
  go_wp2_with fail
  go_loopg [12] m1 (fun gg v12 wr => ∃ i : Nat, i + gg = m1 ∧ v12 = .int .i64 i ∧ Hid (Hm B T n sp hb qs { S with H := mkS P l1 S.H i } P (t + i) w1 wr))
  case atStart => exact ⟨0, by omega, rfl, Lib.hid HM2.out.2⟩
  case round =>
    obtain ⟨i, hi, rfl, HR⟩ := hrel
    obtain ⟨rd, hq1, hq2⟩ := HBel.out HR.out
    have d0 := (cell_of_row rd 0).trans (show _ = some (.slice a1 m1 c1) from rfl)
    by_cases hlt : i < m1
    · --{{A
      obtain ⟨g0, q0, hao, hcl, h255⟩ := hq1 i (by rw [← HLm.out.1]; exact hlt)
      have hNx : mkS P l1 S.H (i + 1) = mk1 P (mkS P l1 S.H i) (l1.getD i 0) := rfl
      generalize mkS P l1 S.H i = H' at HR hNx
      generalize l1.getD i 0 = a at hcl h255 hNx
      obtain ⟨A, hAa⟩ : ∃ A : Nat, atP P a = A := ⟨(atP P a).toNat, by rcases HPi.out.1 a with e | e <;> omega⟩
      have hAb : A = 0 ∨ (3 + T + n ≤ A ∧ A < 3 + T + 33 * n) := by rcases HPi.out.1 a with e | e <;> omega
      have HAt := Lib.hid (hm_at HR.out HPi.out.2 a h255 A hAa)
      have hlen := HR.out.fits.len
      simp only at hlen
      obtain ⟨b, c, hDh, hDc⟩ := HR.out.docs (by have := HNn.out; omega) (Kp.refl [] _) (by simp)
      obtain ⟨y, hy⟩ : ∃ y, H'.getD A 0 = y := ⟨_, rfl⟩
      have hAl : A < H'.length := by have := HNn.out; omega
      have hcy := hDh.cell (k := A) hAl
      simp only at hcy
      rw [hy] at hcy
      have hy0 := hDh.ok A
      simp only at hy0
      rw [hy] at hy0
      obtain ⟨k, c', o', rf, sz, er, g, mk, HTk, hways⟩ := rtake_any y hy0.1 hy0.2
      have hNx2 : mk1 P H' a = if 0 < ((A : Nat) : Int) ∧ Wd.takeB y = true ∧ y % 4 = 2 then H'.set A (mkw y) else H' := by unfold mk1; rw [hAa]; simp only [Int.toNat_natCast, hy]
      rw [hNx2] at hNx
      have HNx := Lib.hid hNx
      obtain ⟨pv, hbx⟩ := HR.out.box
      have c0 := (cell_of_row hbx 0).trans (show _ = some (.pointer (some ⟨sp, 0, none⟩)) from rfl)
      obtain ⟨c6, -⟩ := hDc wr (Kp.refl _ _)
      simp only at c6
      rw [hlen] at c6
      obtain ⟨N, hN⟩ : ∃ N, N = 3 + T + 33 * n := ⟨_, rfl⟩
      rw [← hN] at c6 hlen
      have hAN : A < N := by omega
      have hN1000 : N ≤ 1000 := by have := HNn.out; omega
      have HSet : Hid (∀ (x : Int) (wq : World), A ≠ 0 → 0 ≤ x → x < 18446744073709551616 → Kp [] wr wq → Calls Tryz.prog 29 #[.pointer (some ⟨sp, 0, none⟩), .int .i64 A, .int .u64 x] wq fun e w' => e = .returned (.tuple #[]) ∧ Hm B T n sp hb qs { S with H := H'.set A x } P (t + (i + 1)) w1 w' ∧ w'.heap[hb]? = some (.cells #[.pointer (some ⟨sp, 0, none⟩), pv] 48 (0, 0)) ∧ ∀ (gh : Nat) (cs : Array Value), wq.heap[gh]? = some (.cells cs 81 (0, 0)) → w'.heap[gh]? = some (.cells cs 81 (0, 0))) := Lib.hid fun x wq hA0 h0 h1 kq => by
        have hq := HR.out.on kq
        refine (hm_set hq (by have := HNn.out; omega) (by have := HM2.out.1; have := HNn.out; omega) A (by omega) x h0 h1 (hq.fits.free (by omega) x)).mono ?_
        rintro e w' ⟨rfl, q1, q2⟩
        exact ⟨rfl, q1, q2 hb _ _ (kq.row (by simp) hbx) (by decide) (by decide) (by decide), fun gh cs hgh => q2 gh cs _ hgh (by decide) (by decide) (by decide)⟩
      have HBx := Lib.hid hbx
      have HAw := Lib.hid hAb
      have HW1 : Hid (er = 0 → Wd.takeB y = true ∧ k = y % 4 ∧ c' = y / 4 % 2 ∧ o' = y / 32 % 64 ∧ rf = y / 2048 % 128 ∧ sz = y / 262144 % 128 ∧ g = (y / 8 % 2 == 1)) := Lib.hid fun he => by
        rcases hways with ⟨e0, -⟩ | ⟨-, htk, e1, e2, e3, e4, e5, e6, e7⟩
        · omega
        · exact ⟨htk, e1, e2, e3, e4, e5, e6⟩
      have HW3 : Hid (er = 3 → Wd.takeB y = false) := Lib.hid fun he => by
        rcases hways with ⟨-, htk, -⟩ | ⟨e0, -⟩
        · exact htk
        · omega
      have hways2 : er = 3 ∨ er = 0 := by
        rcases hways with h1 | h1
        · exact .inl h1.1
        · exact .inr h1.1
      have HY := Lib.hid hy0
      subst hao
      clear rd hq1 hq2 hAa hAb hlen hDh hDc hy hAl hy0 hways hNx hNx2 hbx hN h255
      obtain ⟨G1, hG1⟩ : ∃ G1, G1 + 1 = gk := ⟨gk - 1, by omega⟩
      have hgl1 : G1 + 1 ≤ gk := by omega
      have hi1 : i + (G1 + 1) = m1 := by omega
      clear hG1 hi
      go_wp2_with fail
      refine HAt.out.mono ?_
      rintro e w3 ⟨rfl, rfl⟩
      clear HAt
      go_wp2_with fail
      refine (HTk.out _).mono ?_
      rintro e w4 ⟨rfl, hk4⟩
      have kA : Kp [] w4 (w4.alloc (.cells #[.int .u8 k, .int .u8 c', .bool g, .bool mk, .int .u8 o', .int .u8 rf, .int .u8 sz] 81)) := (Kp.refl _ _).alloc _
      have heb := heap_alloc_new w4 (.cells #[.int .u8 k, .int .u8 c', .bool g, .bool mk, .int .u8 o', .int .u8 rf, .int .u8 sz] 81)
      obtain ⟨eb, hhb⟩ : ∃ eb, eb = w4.heap.size := ⟨_, rfl⟩
      obtain ⟨W5, hW5⟩ : ∃ W5, W5 = w4.alloc (.cells #[.int .u8 k, .int .u8 c', .bool g, .bool mk, .int .u8 o', .int .u8 rf, .int .u8 sz] 81) := ⟨_, rfl⟩
      rw [← hW5, ← hhb] at heb
      rw [← hW5] at kA
      have H5' := Lib.hid (And.intro (hk4.trans kA) (And.intro heb (show wr.heap.size ≤ eb by rw [hhb]; exact hk4.size)))
      clear hk4 kA heb c0 c6 hcy hcl d0 HTk
      go_upto_region 9 with (fail)
      rw [← hhb, ← hW5]
      clear hhb hW5
      have t0 := (cell_of_row H5'.out.2.1 0).trans (show _ = some (.int .u8 k) from rfl)
      have t1 := (cell_of_row H5'.out.2.1 1).trans (show _ = some (.int .u8 c') from rfl)
      have t2 := (cell_of_row H5'.out.2.1 2).trans (show _ = some (.bool g) from rfl)
      have t3 := (cell_of_row H5'.out.2.1 3).trans (show _ = some (.bool mk) from rfl)
      have t4 := (cell_of_row H5'.out.2.1 4).trans (show _ = some (.int .u8 o') from rfl)
      have t5 := (cell_of_row H5'.out.2.1 5).trans (show _ = some (.int .u8 rf) from rfl)
      have t6 := (cell_of_row H5'.out.2.1 6).trans (show _ = some (.int .u8 sz) from rfl)
      by_cases hA0 : A = 0
      · have i0 : ¬ ((0 : Int) < (A : Int)) := by omega
        have F5 : Hid (Hm B T n sp hb qs { S with H := mkS P l1 S.H (i + 1) } P (t + (i + 1)) w1 W5) := Lib.hid (by rw [HNx.out, if_neg (by omega)]; exact (HR.out.on H5'.out.1).more (by omega))
        clear HNx HSet HW1 HW3 HR
        go_wp2_with fail
        go_roundg G1
        all_goals first
          | omega
          | exact ⟨i + 1, by omega, by go_num, F5⟩
      · have i0 : ((0 : Int) < (A : Int)) := by omega
        rcases hways2 with rfl | rfl
        · have z0 : ((3 : Int) == 0) = false := rfl
          have z1 := HW3.out rfl
          have F5 : Hid (Hm B T n sp hb qs { S with H := mkS P l1 S.H (i + 1) } P (t + (i + 1)) w1 W5) := Lib.hid (by rw [HNx.out, if_neg (by rw [z1]; simp)]; exact (HR.out.on H5'.out.1).more (by omega))
          clear HNx HSet HW1 HW3 HR
          go_wp2_with fail
          go_roundg G1
          all_goals first
            | omega
            | exact ⟨i + 1, by omega, by go_num, F5⟩
        · obtain ⟨v1, v2, v3, v4, v5, v6, v7⟩ := HW1.out rfl
          have z0 : ((0 : Int) == 0) = true := rfl
          by_cases hk2 : k = 2
          · have z1 : (k == 2) = true := by simp [hk2]
            obtain ⟨u1, u2, u3⟩ := mkw_in HY.out.1 v1 (by omega)
            have HE : Hid (mkS P l1 S.H (i + 1) = H'.set A (mkw y)) := Lib.hid (by rw [HNx.out, if_pos (by refine ⟨?_, v1, ?_⟩ <;> omega)])
            have HWo : Hid (∀ w, Calls Tryz.prog 30 #[.agg #[.int .u8 k, .int .u8 c', .bool g, .bool true, .int .u8 o', .int .u8 rf, .int .u8 sz]] w fun e w' => e = .returned (.int .u64 (mkw y)) ∧ Kp [] w w') := Lib.hid fun w => by
              have := (Wd.rword_any k c' o' rf sz g true w (by omega) (by omega) (by omega) (by omega) (by omega) (by omega) (by omega) (by omega) (by omega) (by omega)).mono fun e w' ⟨q1, q2⟩ => And.intro q1 (kp_of_below q2)
              rw [show Wd.wordI k c' o' rf sz g true = mkw y by rw [v2, v3, v4, v5, v6, v7]; rfl] at this
              exact this
            have HSt := Lib.hid (fun (wq : World) (kq : Kp [] wr wq) => HSet.out (mkw y) wq hA0 u2 u3 kq)
            clear v1 v2 v3 v4 v5 v6 v7 hk2 u1 u2 u3 HNx HW1 HW3 HSet hA0
            have y0 := free_of_row H5'.out.2.1 0
            have y1 := free_of_row H5'.out.2.1 1
            have y2 := free_of_row H5'.out.2.1 2
            have y3 := free_of_row H5'.out.2.1 3
            have y4 := free_of_row H5'.out.2.1 4
            have y5 := free_of_row H5'.out.2.1 5
            have y6 := free_of_row H5'.out.2.1 6
            have rS := heap_setCell_same W5 eb 3 _ _ (.bool true) H5'.out.2.1
            have kS : Kp [eb] W5 (W5.setCell ⟨eb, 3, none⟩ (.bool true)) := (Kp.refl _ _).setCell (.inl (by simp)) _
            obtain ⟨W6, hW6⟩ : ∃ W6, W6 = W5.setCell ⟨eb, 3, none⟩ (.bool true) := ⟨_, rfl⟩
            rw [← hW6] at rS kS
            have H6 : Hid (Kp [] wr W6 ∧ W6.heap[eb]? = some (.cells #[.int .u8 k, .int .u8 c', .bool g, .bool true, .int .u8 o', .int .u8 rf, .int .u8 sz] 81 (0, 0)) ∧ W6.heap[hb]? = some (.cells #[.pointer (some ⟨sp, 0, none⟩), pv] 48 (0, 0))) := Lib.hid (by
              have K6 := kp_new_set H5'.out.1 kS H5'.out.2.2
              exact ⟨K6, rS, K6.row (by simp) HBx.out⟩)
            go_upto_region 11 with (fail)
            rw [← hW6]
            clear rS kS hW6 t0 t1 t2 t3 t4 t5 t6 y0 y1 y2 y3 y4 y5 y6
            have HC : Hid (∀ wx : World, wx.heap[hb]? = some (.cells #[.pointer (some ⟨sp, 0, none⟩), pv] 48 (0, 0)) → wx.heap[eb]? = some (.cells #[.int .u8 k, .int .u8 c', .bool g, .bool true, .int .u8 o', .int .u8 rf, .int .u8 sz] 81 (0, 0)) → wx.cell? ⟨hb, 0, none⟩ = some (.pointer (some ⟨sp, 0, none⟩)) ∧ wx.cell? ⟨eb, 0, none⟩ = some (.int .u8 k) ∧ wx.cell? ⟨eb, 1, none⟩ = some (.int .u8 c') ∧ wx.cell? ⟨eb, 2, none⟩ = some (.bool g) ∧ wx.cell? ⟨eb, 3, none⟩ = some (.bool true) ∧ wx.cell? ⟨eb, 4, none⟩ = some (.int .u8 o') ∧ wx.cell? ⟨eb, 5, none⟩ = some (.int .u8 rf) ∧ wx.cell? ⟨eb, 6, none⟩ = some (.int .u8 sz)) := Lib.hid fun wx r5 rh => ⟨(cell_of_row r5 0).trans rfl, (cell_of_row rh 0).trans rfl, (cell_of_row rh 1).trans rfl, (cell_of_row rh 2).trans rfl, (cell_of_row rh 3).trans rfl, (cell_of_row rh 4).trans rfl, (cell_of_row rh 5).trans rfl, (cell_of_row rh 6).trans rfl⟩
            have HC0 : Hid (∀ wx : World, Kp [] W6 wx → wx.cell? ⟨hb, 0, none⟩ = some (.pointer (some ⟨sp, 0, none⟩)) ∧ wx.cell? ⟨eb, 0, none⟩ = some (.int .u8 k) ∧ wx.cell? ⟨eb, 1, none⟩ = some (.int .u8 c') ∧ wx.cell? ⟨eb, 2, none⟩ = some (.bool g) ∧ wx.cell? ⟨eb, 3, none⟩ = some (.bool true) ∧ wx.cell? ⟨eb, 4, none⟩ = some (.int .u8 o') ∧ wx.cell? ⟨eb, 5, none⟩ = some (.int .u8 rf) ∧ wx.cell? ⟨eb, 6, none⟩ = some (.int .u8 sz)) := Lib.hid fun wx kx => HC.out wx (kx.row (by simp) H6.out.2.2) (kx.row (by simp) H6.out.2.1)
            go_region_held3 (fun wx => wx.cell? ⟨hb, 0, none⟩ = some (.pointer (some ⟨sp, 0, none⟩)) ∧ wx.cell? ⟨eb, 0, none⟩ = some (.int .u8 k) ∧ wx.cell? ⟨eb, 1, none⟩ = some (.int .u8 c') ∧ wx.cell? ⟨eb, 2, none⟩ = some (.bool g) ∧ wx.cell? ⟨eb, 3, none⟩ = some (.bool true) ∧ wx.cell? ⟨eb, 4, none⟩ = some (.int .u8 o') ∧ wx.cell? ⟨eb, 5, none⟩ = some (.int .u8 rf) ∧ wx.cell? ⟨eb, 6, none⟩ = some (.int .u8 sz))
              (first
                | with_reducible assumption
                | (refine HC.out _ ?_ ?_
                   · first | with_reducible exact R8.out.1 | exact ((Kp.refl [] _).drew).row (by simp) R8.out.1
                   · first | with_reducible exact R8.out.2 | exact ((Kp.refl [] _).drew).row (by simp) R8.out.2)
                | (refine HC0.out _ ?_
                   repeat (first
                     | with_reducible first
                      | exact Kp.refl _ _
                      | exact K7.out
                     | with_reducible refine Kp.drew ?_)))
              (first
                | (go_at_call 30
                   refine (HWo.out _).mono ?_
                   rintro e w7 ⟨rfl, k7⟩
                   have K7 : Hid (Kp [] W6 w7) := Lib.hid (by
                     refine Kp.trans ?_ k7
                     repeat (first | with_reducible exact Kp.refl _ _ | with_reducible refine Kp.drew ?_))
                   clear k7)
                | (go_at_call 29
                   refine Calls.mono (HSt.out _ ?hk) ?_
                   case hk =>
                     refine H6.out.1.trans ?_
                     repeat (first | with_reducible exact K7.out | with_reducible exact Kp.refl _ _ | with_reducible refine Kp.drew ?_)
                   rintro e w8 ⟨rfl, q8, b8, r8⟩
                   have F8 := Lib.hid q8
                   have R8 : Hid (w8.heap[hb]? = some (.cells #[.pointer (some ⟨sp, 0, none⟩), pv] 48 (0, 0)) ∧ w8.heap[eb]? = some (.cells #[.int .u8 k, .int .u8 c', .bool g, .bool true, .int .u8 o', .int .u8 rf, .int .u8 sz] 81 (0, 0))) := Lib.hid ⟨b8, r8 eb _ (by
                     refine Kp.row (S := []) ?_ (by simp) H6.out.2.1
                     repeat (first | with_reducible exact K7.out | with_reducible exact Kp.refl _ _ | with_reducible refine Kp.drew ?_))⟩
                   clear q8 b8 r8))
            all_goals
              rename_i hHeld
              clear hHeld
            all_goals
              have F5 : Hid (Hm B T n sp hb qs { S with H := mkS P l1 S.H (i + 1) } P (t + (i + 1)) w1 w8) := Lib.hid (by rw [HE.out]; exact F8.out)
              clear HE HC HC0 R8 K7 F8 HSt HWo HBx HR H6 H5'
            all_goals go_wp2_with fail
            all_goals go_roundg G1
            all_goals first
              | omega
              | exact ⟨i + 1, by omega, by go_num, F5⟩
          · have z1 : (k == 2) = false := by simp [hk2]
            have z2 : ¬ (0 < ((A : Nat) : Int) ∧ Wd.takeB y = true ∧ y % 4 = 2) := by omega
            have F5 : Hid (Hm B T n sp hb qs { S with H := mkS P l1 S.H (i + 1) } P (t + (i + 1)) w1 W5) := Lib.hid (by rw [HNx.out, if_neg (z2)]; exact (HR.out.on H5'.out.1).more (by omega))
            clear HNx HSet HW1 HW3 HR
            clear z2 v1 v2 v3 v4 v5 v6 v7 hk2
            go_wp2_with fail
            go_roundg G1
            all_goals first
              | omega
              | exact ⟨i + 1, by omega, by go_num, F5⟩
      --}}
    · obtain rfl : i = m1 := by omega
      obtain ⟨H1, hH1⟩ : ∃ H1, H1 = mkS P l1 S.H i := ⟨_, rfl⟩
      have HRr : Hid (Hm B T n sp hb qs { S with H := frS P l2 H1 0 } P (t + 60 + 0) w1 wr) := Lib.hid (by rw [hH1]; exact HR.out.more (by omega))
      have HH1 := Lib.hid hH1
      clear hH1 rd hq1 hq2 HR
      go_wp2_with fail
      go_loopg [16] m2 (fun gg v16 wr => ∃ i : Nat, i + gg = m2 ∧ v16 = .int .i64 i ∧ Hid (Hm B T n sp hb qs { S with H := frS P l2 H1 i } P (t + 60 + i) w1 wr))
      case atStart => exact ⟨0, by omega, rfl, HRr⟩
      case round =>
        clear HRr
        obtain ⟨j, hj, rfl, HR⟩ := hrel
        obtain ⟨rd, hq1, hq2⟩ := HBel.out HR.out
        have d1 := (cell_of_row rd 1).trans (show _ = some (.slice a2 m2 c2) from rfl)
        by_cases hlt2 : j < m2
        · --{{B
          obtain ⟨g0, q0, hao, hcl, h255⟩ := hq2 j (by rw [← HLm.out.2]; exact hlt2)
          have hNx : frS P l2 H1 (j + 1) = fr1 P (frS P l2 H1 j) (l2.getD j 0) := rfl
          generalize frS P l2 H1 j = H' at HR hNx
          generalize l2.getD j 0 = a at hcl h255 hNx
          obtain ⟨A, hAa⟩ : ∃ A : Nat, atP P a = A := ⟨(atP P a).toNat, by rcases HPi.out.1 a with e | e <;> omega⟩
          have hAb : A = 0 ∨ (3 + T + n ≤ A ∧ A < 3 + T + 33 * n) := by rcases HPi.out.1 a with e | e <;> omega
          have HAt := Lib.hid (hm_at HR.out HPi.out.2 a h255 A hAa)
          have hlen := HR.out.fits.len
          simp only at hlen
          obtain ⟨b, c, hDh, hDc⟩ := HR.out.docs (by have := HNn.out; omega) (Kp.refl [] _) (by simp)
          obtain ⟨y, hy⟩ : ∃ y, H'.getD A 0 = y := ⟨_, rfl⟩
          have hAl : A < H'.length := by have := HNn.out; omega
          have hcy := hDh.cell (k := A) hAl
          simp only at hcy
          rw [hy] at hcy
          have hy0 := hDh.ok A
          simp only at hy0
          rw [hy] at hy0
          obtain ⟨k, c', o', rf, sz, er, g, mk, HTk, hways⟩ := rtake_any y hy0.1 hy0.2
          have hNx2 : fr1 P H' a = if 0 < ((A : Nat) : Int) ∧ Wd.takeB y = true ∧ y % 4 = 3 ∧ y / 262144 % 128 < 9 then H'.set A (Wd.wordI 0 0 (y / 32 % 64) 0 0 false false) else H' := by unfold fr1; rw [hAa]; simp only [Int.toNat_natCast, hy]
          rw [hNx2] at hNx
          have HNx := Lib.hid hNx
          obtain ⟨pv, hbx⟩ := HR.out.box
          have c0 := (cell_of_row hbx 0).trans (show _ = some (.pointer (some ⟨sp, 0, none⟩)) from rfl)
          obtain ⟨c6, -⟩ := hDc wr (Kp.refl _ _)
          simp only at c6
          rw [hlen] at c6
          obtain ⟨N, hN⟩ : ∃ N, N = 3 + T + 33 * n := ⟨_, rfl⟩
          rw [← hN] at c6 hlen
          have hAN : A < N := by omega
          have hN1000 : N ≤ 1000 := by have := HNn.out; omega
          have HSet : Hid (∀ (x : Int) (wq : World), A ≠ 0 → 0 ≤ x → x < 18446744073709551616 → Kp [] wr wq → Calls Tryz.prog 29 #[.pointer (some ⟨sp, 0, none⟩), .int .i64 A, .int .u64 x] wq fun e w' => e = .returned (.tuple #[]) ∧ Hm B T n sp hb qs { S with H := H'.set A x } P (t + 60 + (j + 1)) w1 w' ∧ w'.heap[hb]? = some (.cells #[.pointer (some ⟨sp, 0, none⟩), pv] 48 (0, 0)) ∧ ∀ (gh : Nat) (cs : Array Value), wq.heap[gh]? = some (.cells cs 81 (0, 0)) → w'.heap[gh]? = some (.cells cs 81 (0, 0))) := Lib.hid fun x wq hA0 h0 h1 kq => by
            have hq := HR.out.on kq
            refine (hm_set hq (by have := HNn.out; omega) (by have := HM2.out.1; have := HNn.out; omega) A (by omega) x h0 h1 (hq.fits.free (by omega) x)).mono ?_
            rintro e w' ⟨rfl, q1, q2⟩
            exact ⟨rfl, q1, q2 hb _ _ (kq.row (by simp) hbx) (by decide) (by decide) (by decide), fun gh cs hgh => q2 gh cs _ hgh (by decide) (by decide) (by decide)⟩
          have HBx := Lib.hid hbx
          have HAw := Lib.hid hAb
          have HW1 : Hid (er = 0 → Wd.takeB y = true ∧ k = y % 4 ∧ c' = y / 4 % 2 ∧ o' = y / 32 % 64 ∧ rf = y / 2048 % 128 ∧ sz = y / 262144 % 128 ∧ g = (y / 8 % 2 == 1)) := Lib.hid fun he => by
            rcases hways with ⟨e0, -⟩ | ⟨-, htk, e1, e2, e3, e4, e5, e6, e7⟩
            · omega
            · exact ⟨htk, e1, e2, e3, e4, e5, e6⟩
          have HW3 : Hid (er = 3 → Wd.takeB y = false) := Lib.hid fun he => by
            rcases hways with ⟨-, htk, -⟩ | ⟨e0, -⟩
            · exact htk
            · omega
          have hways2 : er = 3 ∨ er = 0 := by
            rcases hways with h1 | h1
            · exact .inl h1.1
            · exact .inr h1.1
          have HY := Lib.hid hy0
          subst hao
          clear rd hq1 hq2 hAa hAb hlen hDh hDc hy hAl hy0 hways hNx hNx2 hbx hN h255
          obtain ⟨G1, hG1⟩ : ∃ G1, G1 + 1 = gk := ⟨gk - 1, by omega⟩
          have hgl1 : G1 + 1 ≤ gk := by omega
          have hi1 : j + (G1 + 1) = m2 := by omega
          clear hG1 hj
          go_wp2_with fail
          refine HAt.out.mono ?_
          rintro e w3 ⟨rfl, rfl⟩
          clear HAt
          go_wp2_with fail
          refine (HTk.out _).mono ?_
          rintro e w4 ⟨rfl, hk4⟩
          have kA : Kp [] w4 (w4.alloc (.cells #[.int .u8 k, .int .u8 c', .bool g, .bool mk, .int .u8 o', .int .u8 rf, .int .u8 sz] 81)) := (Kp.refl _ _).alloc _
          have heb := heap_alloc_new w4 (.cells #[.int .u8 k, .int .u8 c', .bool g, .bool mk, .int .u8 o', .int .u8 rf, .int .u8 sz] 81)
          obtain ⟨eb, hhb⟩ : ∃ eb, eb = w4.heap.size := ⟨_, rfl⟩
          obtain ⟨W5, hW5⟩ : ∃ W5, W5 = w4.alloc (.cells #[.int .u8 k, .int .u8 c', .bool g, .bool mk, .int .u8 o', .int .u8 rf, .int .u8 sz] 81) := ⟨_, rfl⟩
          rw [← hW5, ← hhb] at heb
          rw [← hW5] at kA
          have H5' := Lib.hid (And.intro (hk4.trans kA) (And.intro heb (show wr.heap.size ≤ eb by rw [hhb]; exact hk4.size)))
          clear hk4 kA heb c0 c6 hcy hcl d1 HTk
          go_upto_region 17 with (fail)
          rw [← hhb, ← hW5]
          clear hhb hW5
          have t0 := (cell_of_row H5'.out.2.1 0).trans (show _ = some (.int .u8 k) from rfl)
          have t1 := (cell_of_row H5'.out.2.1 1).trans (show _ = some (.int .u8 c') from rfl)
          have t2 := (cell_of_row H5'.out.2.1 2).trans (show _ = some (.bool g) from rfl)
          have t3 := (cell_of_row H5'.out.2.1 3).trans (show _ = some (.bool mk) from rfl)
          have t4 := (cell_of_row H5'.out.2.1 4).trans (show _ = some (.int .u8 o') from rfl)
          have t5 := (cell_of_row H5'.out.2.1 5).trans (show _ = some (.int .u8 rf) from rfl)
          have t6 := (cell_of_row H5'.out.2.1 6).trans (show _ = some (.int .u8 sz) from rfl)
          by_cases hA0 : A = 0
          · have i0 : ¬ ((0 : Int) < (A : Int)) := by omega
            have F5 : Hid (Hm B T n sp hb qs { S with H := frS P l2 H1 (j + 1) } P (t + 60 + (j + 1)) w1 W5) := Lib.hid (by rw [HNx.out, if_neg (by omega)]; exact (HR.out.on H5'.out.1).more (by omega))
            clear HNx HSet HW1 HW3 HR
            go_wp2_with fail
            go_roundg G1
            all_goals first
              | omega
              | exact ⟨j + 1, by omega, by go_num, F5⟩
          · have i0 : ((0 : Int) < (A : Int)) := by omega
            rcases hways2 with rfl | rfl
            · have z0 : ((3 : Int) == 0) = false := rfl
              have z1 := HW3.out rfl
              have F5 : Hid (Hm B T n sp hb qs { S with H := frS P l2 H1 (j + 1) } P (t + 60 + (j + 1)) w1 W5) := Lib.hid (by rw [HNx.out, if_neg (by rw [z1]; simp)]; exact (HR.out.on H5'.out.1).more (by omega))
              clear HNx HSet HW1 HW3 HR
              go_wp2_with fail
              go_roundg G1
              all_goals first
                | omega
                | exact ⟨j + 1, by omega, by go_num, F5⟩
            · obtain ⟨v1, v2, v3, v4, v5, v6, v7⟩ := HW1.out rfl
              have z0 : ((0 : Int) == 0) = true := rfl
              by_cases hk2 : k = 3
              · have z1 : (k == 3) = true := by simp [hk2]
                by_cases hsz : sz < 9
                · have HE : Hid (frS P l2 H1 (j + 1) = H'.set A (Wd.wordI 0 0 (y / 32 % 64) 0 0 false false)) := Lib.hid (by rw [HNx.out, if_pos (by refine ⟨?_, v1, ?_, ?_⟩ <;> omega)])
                  have hfi : 0 ≤ Wd.wordI 0 0 (y / 32 % 64) 0 0 false false ∧ Wd.wordI 0 0 (y / 32 % 64) 0 0 false false < 18446744073709551616 := by unfold Wd.wordI Wd.bitI; simp; omega
                  have HWo : Hid (∀ w, Calls Tryz.prog 30 #[.agg #[.int .u8 0, .int .u8 0, .bool false, .bool false, .int .u8 o', .int .u8 0, .int .u8 0]] w fun e w' => e = .returned (.int .u64 (Wd.wordI 0 0 (y / 32 % 64) 0 0 false false)) ∧ Kp [] w w') := Lib.hid fun w => by
                    have := (Wd.rword_any 0 0 o' 0 0 false false w (by omega) (by omega) (by omega) (by omega) (by omega) (by omega) (by omega) (by omega) (by omega) (by omega)).mono fun e w' ⟨q1, q2⟩ => And.intro q1 (kp_of_below q2)
                    rw [v4] at this
                    rw [v4]
                    exact this
                  have HSt := Lib.hid (fun (wq : World) (kq : Kp [] wr wq) => HSet.out (Wd.wordI 0 0 (y / 32 % 64) 0 0 false false) wq hA0 hfi.1 hfi.2 kq)
                  have H6 : Hid (Kp [] wr W5 ∧ W5.heap[eb]? = some (.cells #[.int .u8 k, .int .u8 c', .bool g, .bool mk, .int .u8 o', .int .u8 rf, .int .u8 sz] 81 (0, 0)) ∧ W5.heap[hb]? = some (.cells #[.pointer (some ⟨sp, 0, none⟩), pv] 48 (0, 0))) := Lib.hid ⟨H5'.out.1, H5'.out.2.1, H5'.out.1.row (by simp) HBx.out⟩
                  clear v1 v2 v3 v4 v5 v6 v7 hk2 hfi HNx HW1 HW3 HSet hA0
                  go_upto_region 18 with (fail)
                  clear t0 t1 t2 t3 t4 t5 t6
                  have HC : Hid (∀ wx : World, wx.heap[hb]? = some (.cells #[.pointer (some ⟨sp, 0, none⟩), pv] 48 (0, 0)) → wx.heap[eb]? = some (.cells #[.int .u8 k, .int .u8 c', .bool g, .bool mk, .int .u8 o', .int .u8 rf, .int .u8 sz] 81 (0, 0)) → wx.cell? ⟨hb, 0, none⟩ = some (.pointer (some ⟨sp, 0, none⟩)) ∧ wx.cell? ⟨eb, 0, none⟩ = some (.int .u8 k) ∧ wx.cell? ⟨eb, 1, none⟩ = some (.int .u8 c') ∧ wx.cell? ⟨eb, 2, none⟩ = some (.bool g) ∧ wx.cell? ⟨eb, 3, none⟩ = some (.bool mk) ∧ wx.cell? ⟨eb, 4, none⟩ = some (.int .u8 o') ∧ wx.cell? ⟨eb, 5, none⟩ = some (.int .u8 rf) ∧ wx.cell? ⟨eb, 6, none⟩ = some (.int .u8 sz)) := Lib.hid fun wx r5 rh => ⟨(cell_of_row r5 0).trans rfl, (cell_of_row rh 0).trans rfl, (cell_of_row rh 1).trans rfl, (cell_of_row rh 2).trans rfl, (cell_of_row rh 3).trans rfl, (cell_of_row rh 4).trans rfl, (cell_of_row rh 5).trans rfl, (cell_of_row rh 6).trans rfl⟩
                  have HC0 : Hid (∀ wx : World, Kp [] W5 wx → wx.cell? ⟨hb, 0, none⟩ = some (.pointer (some ⟨sp, 0, none⟩)) ∧ wx.cell? ⟨eb, 0, none⟩ = some (.int .u8 k) ∧ wx.cell? ⟨eb, 1, none⟩ = some (.int .u8 c') ∧ wx.cell? ⟨eb, 2, none⟩ = some (.bool g) ∧ wx.cell? ⟨eb, 3, none⟩ = some (.bool mk) ∧ wx.cell? ⟨eb, 4, none⟩ = some (.int .u8 o') ∧ wx.cell? ⟨eb, 5, none⟩ = some (.int .u8 rf) ∧ wx.cell? ⟨eb, 6, none⟩ = some (.int .u8 sz)) := Lib.hid fun wx kx => HC.out wx (kx.row (by simp) H6.out.2.2) (kx.row (by simp) H6.out.2.1)
                  go_region_held3 (fun wx => wx.cell? ⟨hb, 0, none⟩ = some (.pointer (some ⟨sp, 0, none⟩)) ∧ wx.cell? ⟨eb, 0, none⟩ = some (.int .u8 k) ∧ wx.cell? ⟨eb, 1, none⟩ = some (.int .u8 c') ∧ wx.cell? ⟨eb, 2, none⟩ = some (.bool g) ∧ wx.cell? ⟨eb, 3, none⟩ = some (.bool mk) ∧ wx.cell? ⟨eb, 4, none⟩ = some (.int .u8 o') ∧ wx.cell? ⟨eb, 5, none⟩ = some (.int .u8 rf) ∧ wx.cell? ⟨eb, 6, none⟩ = some (.int .u8 sz))
                    (first
                      | with_reducible assumption
                      | (refine HC.out _ ?_ ?_
                         · first | with_reducible exact R8.out.1 | exact ((Kp.refl [] _).drew).row (by simp) R8.out.1
                         · first | with_reducible exact R8.out.2 | exact ((Kp.refl [] _).drew).row (by simp) R8.out.2)
                      | (refine HC0.out _ ?_
                         repeat (first
                           | with_reducible first
                            | exact Kp.refl _ _
                            | exact K7.out
                           | with_reducible refine Kp.drew ?_)))
                    (first
                      | (go_at_call 30
                         refine (HWo.out _).mono ?_
                         rintro e w7 ⟨rfl, k7⟩
                         have K7 : Hid (Kp [] W5 w7) := Lib.hid (by
                           refine Kp.trans ?_ k7
                           repeat (first | with_reducible exact Kp.refl _ _ | with_reducible refine Kp.drew ?_))
                         clear k7)
                      | (go_at_call 29
                         refine Calls.mono (HSt.out _ ?hk) ?_
                         case hk =>
                           refine H6.out.1.trans ?_
                           repeat (first | with_reducible exact K7.out | with_reducible exact Kp.refl _ _ | with_reducible refine Kp.drew ?_)
                         rintro e w8 ⟨rfl, q8, b8, r8⟩
                         have F8 := Lib.hid q8
                         have R8 : Hid (w8.heap[hb]? = some (.cells #[.pointer (some ⟨sp, 0, none⟩), pv] 48 (0, 0)) ∧ w8.heap[eb]? = some (.cells #[.int .u8 k, .int .u8 c', .bool g, .bool mk, .int .u8 o', .int .u8 rf, .int .u8 sz] 81 (0, 0))) := Lib.hid ⟨b8, r8 eb _ (by
                           refine Kp.row (S := []) ?_ (by simp) H6.out.2.1
                           repeat (first | with_reducible exact K7.out | with_reducible exact Kp.refl _ _ | with_reducible refine Kp.drew ?_))⟩
                         clear q8 b8 r8))
                  all_goals
                    rename_i hHeld
                    clear hHeld
                  all_goals
                    have F5 : Hid (Hm B T n sp hb qs { S with H := frS P l2 H1 (j + 1) } P (t + 60 + (j + 1)) w1 w8) := Lib.hid (by rw [HE.out]; exact F8.out)
                    clear HE HC HC0 R8 K7 F8 HSt HWo HBx HR H6 H5'
                  all_goals go_wp2_with fail
                  all_goals go_roundg G1
                  all_goals first
                    | omega
                    | exact ⟨j + 1, by omega, by go_num, F5⟩
                · have z2 : ¬ (0 < ((A : Nat) : Int) ∧ Wd.takeB y = true ∧ y % 4 = 3 ∧ y / 262144 % 128 < 9) := by omega
                  have F5 : Hid (Hm B T n sp hb qs { S with H := frS P l2 H1 (j + 1) } P (t + 60 + (j + 1)) w1 W5) := Lib.hid (by rw [HNx.out, if_neg (z2)]; exact (HR.out.on H5'.out.1).more (by omega))
                  clear HNx HSet HW1 HW3 HR
                  clear z2 v1 v2 v3 v4 v5 v6 v7 hk2
                  go_wp2_with fail
                  go_roundg G1
                  all_goals first
                    | omega
                    | exact ⟨j + 1, by omega, by go_num, F5⟩
              · have z1 : (k == 3) = false := by simp [hk2]
                have z2 : ¬ (0 < ((A : Nat) : Int) ∧ Wd.takeB y = true ∧ y % 4 = 3 ∧ y / 262144 % 128 < 9) := by omega
                have F5 : Hid (Hm B T n sp hb qs { S with H := frS P l2 H1 (j + 1) } P (t + 60 + (j + 1)) w1 W5) := Lib.hid (by rw [HNx.out, if_neg (z2)]; exact (HR.out.on H5'.out.1).more (by omega))
                clear HNx HSet HW1 HW3 HR
                clear z2 v1 v2 v3 v4 v5 v6 v7 hk2
                go_wp2_with fail
                go_roundg G1
                all_goals first
                  | omega
                  | exact ⟨j + 1, by omega, by go_num, F5⟩
          --}}
        · obtain rfl : j = m2 := by omega
          have HF := Lib.hid HR.out
          clear rd hq1 hq2 HR
          go_wp2_with fail
          go_ret2
          exact ⟨sp, hb, qs, t + 60 + j, by have := HM2.out.1; omega, rfl, by rw [← HH1.out]; exact HF.out⟩
end Go.Proofs.YticbnckikkdknaaGreatDoor

namespace Go.Proofs.YticbnckikkdknaaGreatDoor
set_option linter.unusedVariables false
set_option linter.unusedSimpArgs false
set_option maxRecDepth 100000
open Go.RowKit

/-- The known things; their places, the list, and the words, one of them marked. -/
def kn9 : List Th := [⟨0, 0, 1, false, 0, []⟩, ⟨0, 0, 1, false, 0, []⟩]
abbrev kn9S : As := { (makesN 1 1 kn9 2).1 with H := kidsN (makesN 1 1 kn9 2).2 kn9 (makesN 1 1 kn9 2).1.H 2 }
def kn9H : List Int := frS (makesN 1 1 kn9 2).2 [] (mkS (makesN 1 1 kn9 2).2 [2] kn9S.H 1) 0
def kn9R : Nat → List Int := kn9S.Rs 0
def kn9a : Hs := sweepS 1 1 0 false (kn9H, kn9R) 1
def kn9b : Hs := sweepS 1 1 0 false kn9a 1
theorem kn9_v : (kn9a.2 0).length = 15 ∧ kn9a.1.getD 0 0 = 0 ∧ kn9b.1.getD 0 0 = 1 ∧ (kn9b.2 0).length = 0 := by
  refine ⟨?_, ?_, ?_, ?_⟩ <;> kernel_rfl

/-- What stands of a heap whose list one sweeps. -/
structure K9 (B sp hb q gf cf : Nat) (H : List Int) (R : Nat → List Int) (t : Nat) (w0 W : World) : Prop where
  mw : ∃ vs, Mw 1 0 1 (B + 1) B q vs H R t W ∧ ∀ g, Li.Owns vs g → B ≤ g
  bx : ∃ pv, W.heap[hb]? = some (.cells #[.pointer (some ⟨sp, 0, none⟩), pv] 48 (0, 0))
  st : ∃ f, S13 W sp f ∧ f 0 = .pointer (some ⟨B + 1, 0, none⟩) ∧ f 1 = .int .i64 1 ∧ f 2 = .int .i64 0 ∧ f 3 = .int .i64 1 ∧ f 4 = .slice (some ⟨gf, 0, none⟩) 1 cf
  fr : ∃ cur, W.heap[gf]? = some (.cells cur 69 (0, 0)) ∧ cur[0]? = some (.pointer (some ⟨q, 0, none⟩))
  bq : B ≤ q
  bel : Below B w0 W
  bw : B ≤ W.heap.size
section
variable {B sp hb q gf cf t : Nat} {H : List Int} {R : Nat → List Int} {w0 W W' : World}
theorem K9.cells (h : K9 B sp hb q gf cf H R t w0 W) : W.cell? ⟨hb, 0, none⟩ = some (.pointer (some ⟨sp, 0, none⟩)) ∧ W.cell? ⟨sp, 0, none⟩ = some (.pointer (some ⟨B + 1, 0, none⟩)) ∧ W.cell? ⟨sp, 1, none⟩ = some (.int .i64 1) ∧ W.cell? ⟨sp, 2, none⟩ = some (.int .i64 0) ∧ W.cell? ⟨sp, 3, none⟩ = some (.int .i64 1) ∧ W.cell? ⟨sp, 4, none⟩ = some (.slice (some ⟨gf, 0, none⟩) 1 cf) ∧ W.cell? ⟨gf, 0, none⟩ = some (.pointer (some ⟨q, 0, none⟩)) := by
  obtain ⟨pv, h1⟩ := h.bx
  obtain ⟨f, h2, f0, f1, f2, f3, f4⟩ := h.st
  obtain ⟨cur, h3, h4⟩ := h.fr
  exact ⟨(cell_of_row h1 0).trans rfl, (h2.cell (by decide)).trans (by rw [f0]), (h2.cell (by decide)).trans (by rw [f1]), (h2.cell (by decide)).trans (by rw [f2]), (h2.cell (by decide)).trans (by rw [f3]), (h2.cell (by decide)).trans (by rw [f4]), (cell_of_row h3 0).trans h4⟩
theorem K9.on (h : K9 B sp hb q gf cf H R t w0 W) (k : Kp [] W W') : K9 B sp hb q gf cf H R t w0 W' := by
  obtain ⟨vs, m, o⟩ := h.mw
  obtain ⟨pv, h1⟩ := h.bx
  obtain ⟨f, h2, hf⟩ := h.st
  obtain ⟨cur, h3, h4⟩ := h.fr
  exact ⟨⟨vs, m.on k, o⟩, ⟨pv, k.row (by simp) h1⟩, ⟨f, h2.keep k (by simp), hf⟩, ⟨cur, k.row (by simp) h3, h4⟩, h.bq, h.bel.trans (k.below h.bw (by simp)), Nat.le_trans h.bw k.size⟩
/-- The list, and the words, have turned. -/
theorem K9.turn (h : K9 B sp hb q gf cf H R t w0 W) {vs vs' : Nat → Value} {H' : List Int} {R' : Nat → List Int} {t' : Nat} (m : Mw 1 0 1 (B + 1) B q vs H R t W) (o : ∀ g, Li.Owns vs g → B ≤ g) (m' : Mw 1 0 1 (B + 1) B q vs' H' R' t' W') (k : Mk (B + 1) B q vs vs' W W') : K9 B sp hb q gf cf H' R' t' w0 W' := by
  obtain ⟨pv, h1⟩ := h.bx
  obtain ⟨f, h2, hf⟩ := h.st
  obtain ⟨cur, h3, h4⟩ := h.fr
  have hbq := h.bq
  refine ⟨⟨vs', m', fun g hg => ?_⟩, ⟨pv, m.row k h1 (by decide) (by decide) (by decide) (by decide)⟩, ⟨f, m.row k h2 (by decide) (by decide) (by decide) (by decide), hf⟩, ⟨cur, m.row k h3 (by decide) (by decide) (by decide) (by decide), h4⟩, h.bq, h.bel.trans ((Mh.of_mk (Sh := []) k).kp.below h.bw fun g hg => ?_), Nat.le_trans h.bw k.size⟩
  · rcases k.own g hg with z | z
    · exact o g z
    · exact Nat.le_trans h.bw z
  · rcases mem_mhS.1 hg with e | e | e | e | e
    · omega
    · omega
    · omega
    · simp at e
    · exact o g e
theorem K9.sweep (h : K9 B sp hb q gf cf H R t w0 W) (ht : t ≤ 300000) : Calls Tryz.prog 19 #[.iface 31 (.pointer (some ⟨B + 1, 0, none⟩)), .agg #[.int .i64 1, .int .i64 0, .int .i64 1], .int .u8 0, .pointer (some ⟨q, 0, none⟩), .bool false] W fun e w' => e = .returned (.int .i64 0) ∧ K9 B sp hb q gf cf (sweepS 1 1 0 false (H, R) 1).1 (sweepS 1 1 0 false (H, R) 1).2 (t + 40) w0 w' := by
  obtain ⟨vs, m, o⟩ := h.mw
  refine Calls.mono (sw_sweep (T := 1) (n := 1) (o := 0) (wk := false) m (Nat.le_trans ht (by decide)) (by decide)) ?_
  rintro e w' ⟨rfl, vs', m', k⟩
  exact ⟨rfl, h.turn m o m' k⟩
theorem K9.len (h : K9 B sp hb q gf cf H R t w0 W) : Calls Tryz.prog 40 #[.pointer (some ⟨q, 0, none⟩), .int .i64 0] W fun e w' => e = .returned (.int .i64 (R 0).length) ∧ W = w' := by
  obtain ⟨vs, m, o⟩ := h.mw
  exact (Li.len_good W q 0 vs R m.ls (by decide) ((m.lk.len m.sm) 0 (by decide))).mono fun e w' ⟨e1, e2⟩ => ⟨e1, e2.symm⟩
theorem K9.read (h : K9 B sp hb q gf cf H R t w0 W) (ht : t ≤ 300000) : Calls Tryz.prog 41 #[.pointer (some ⟨B + 1, 0, none⟩), .int .i64 0] W fun e w' => e = .returned (.int .u64 (H.getD 0 0)) ∧ K9 B sp hb q gf cf H R (t + 1) w0 w' := by
  obtain ⟨vs, m, o⟩ := h.mw
  obtain ⟨t0, ht0, hh⟩ := m.hw
  refine (rd_word hh (by omega) 0 (by have := m.fit.1; omega) 0 _ rfl rfl).mono ?_
  rintro e w' ⟨rfl, h2, k2⟩
  exact ⟨rfl, h.turn m o (m.turn k2 ⟨t0 + 1, by omega, h2⟩ rfl) (Mk.of_kp k2 (by simp))⟩
end
/-- The law's heap, so. -/
theorem k9_of {B sp hb t : Nat} {qs : Nat → Nat} {S : As} {P : List Int} {w0 W : World} (h : Hm B 1 1 sp hb qs S P t w0 W) : ∃ q gf cf, K9 B sp hb q gf cf S.H (S.Rs 0) t w0 W := by
  obtain ⟨v, col, pv, hA, hLo, hbx, hpv, hpc, hcb⟩ := h.ex
  obtain ⟨gf, cf, e4, hc, ⟨cur, hcur⟩, hcell⟩ := rowF_at hA.free (by omega)
  have h0 := hcell 0 (by omega)
  rw [cell_of_row hcur] at h0
  exact ⟨qs 0, gf, cf, ⟨v.vss 0, hA.mws.one 0 (by omega), hLo.o0 0 (by omega)⟩, ⟨pv, hbx⟩, ⟨v.f, hA.st, hA.f0, hA.f1, hA.f2, hA.f3, e4⟩, ⟨cur, hcur, h0⟩, hLo.q0 0 (by omega), h.bel, Nat.le_trans h.ge (Nat.le_of_lt (lt_of_block hbx))⟩

set_option maxHeartbeats 8000000 in
theorem wakes19 (HMd : Hid CMade) (w : World) (T0 : Cl.Tab w) : Calls Tryz.prog 16 #[] w fun e w' => e = .returned (.bool true) ∧ Kp [] w w' := by
  obtain ⟨w1, hw1⟩ : ∃ w1, w1 = w.alloc (.cells #[.int .u8 0, .int .u8 0, .int .u8 1, .bool false, .int .u8 0, .slice none 0 0, .int .u8 0, .int .u8 0, .int .u8 1, .bool false, .int .u8 0, .slice none 0 0] 77) := ⟨_, rfl⟩
  obtain ⟨w2, hw2⟩ : ∃ w2, w2 = w1.alloc (.cells #[.int .u8 2] 5) := ⟨_, rfl⟩
  have z1 : w1.heap.size = w.heap.size + 1 := by rw [hw1]; exact World.size_alloc _ _
  have k1 : Kp [] w w1 := by rw [hw1]; exact (Kp.refl _ _).alloc _
  have k2 : Kp [] w1 w2 := by rw [hw2]; exact (Kp.refl _ _).alloc _
  have r1 : w1.heap[w.heap.size]? = some (.cells #[.int .u8 0, .int .u8 0, .int .u8 1, .bool false, .int .u8 0, .slice none 0 0, .int .u8 0, .int .u8 0, .int .u8 1, .bool false, .int .u8 0, .slice none 0 0] 77 (0, 0)) := by rw [hw1]; exact heap_alloc_new _ _
  have r2 : w2.heap[w.heap.size + 1]? = some (.cells #[.int .u8 2] 5 (0, 0)) := by rw [hw2, ← z1]; exact heap_alloc_new _ _
  have q1 := k2.row (by simp) r1
  have hA : Tgs w2 (some ⟨w.heap.size, 0, none⟩) kn9 := by
    have cl : ∀ i, w2.cell? ⟨w.heap.size, i, none⟩ = _ := fun i => cell_of_row q1 i
    intro j hj
    have hj2 : j < 2 := hj
    refine ⟨w.heap.size, 0, rfl, ?_, ?_⟩
    · match j, hj2 with
      | 0, _ => exact ⟨cl 0, cl 1, cl 2, cl 3, cl 4, none, 0, cl 5, fun k hk => absurd (show k < 0 from hk) (Nat.not_lt_zero _)⟩
      | 1, _ => exact ⟨cl 6, cl 7, cl 8, cl 9, cl 10, none, 0, cl 11, fun k hk => absurd (show k < 0 from hk) (Nat.not_lt_zero _)⟩
    · match j, hj2 with
      | 0, _ => exact ⟨by decide, by decide, by decide, by decide, fun k => by exact Nat.zero_le _⟩
      | 1, _ => exact ⟨by decide, by decide, by decide, by decide, fun k => by exact Nat.zero_le _⟩
  have hN1 : Nms w2 (some ⟨w.heap.size + 1, 0, none⟩) [2] := fun j hj => by
    have : j = 0 := by simp at hj; exact hj
    subst this
    exact ⟨w.heap.size + 1, 0, rfl, (cell_of_row r2 0).trans rfl, by decide⟩
  have hN2 : Nms w2 none [] := fun j hj => absurd hj (Nat.not_lt_zero _)
  have K12 := k1.trans k2
  have hma := made19 HMd w2 (tab_keep T0 K12 (by simp)) 1 1 (by decide) (by decide) (by decide) (by decide) (some ⟨w.heap.size, 0, none⟩) (some ⟨w.heap.size + 1, 0, none⟩) none 2 1 0 kn9 (by decide) hA [2] [] (by decide) hN1 (by decide) hN2 kn9S rfl _ rfl
  have HMa := Lib.hid hma
  have HK := Lib.hid K12
  clear hma hA hN1 hN2 K12 k1 k2 r1 r2 q1 T0
  rw [hw1] at hw2
  clear hw1 z1 w1
  go_enter Tryz.func16, Tryz.ntmps16
  go_wp2_with fail
  rw [← hw2]
  clear hw2
  refine Calls.mono HMa.out ?_
  rintro e w3 ⟨sp, hb, qs, t, ht, rfl, hm⟩
  obtain ⟨q, gf, cf, h9⟩ := k9_of hm
  have hz2 : (w2.alloc (.cells #[.slice (some ⟨w.heap.size + 1, 0, none⟩) [2].length 1, .slice none ([] : List Nat).length 0] 64)).heap.size = w2.heap.size + 1 := World.size_alloc _ _
  have hkA : Kp [] w2 (w2.alloc (.cells #[.slice (some ⟨w.heap.size + 1, 0, none⟩) [2].length 1, .slice none ([] : List Nat).length 0] 64)) := (Kp.refl _ _).alloc _
  generalize (w2.alloc (.cells #[.slice (some ⟨w.heap.size + 1, 0, none⟩) [2].length 1, .slice none ([] : List Nat).length 0] 64)) = wA at *
  obtain ⟨B, hB⟩ : ∃ B, B = w2.heap.size + 1 := ⟨_, rfl⟩
  rw [← hB] at h9 hz2
  have h9 : K9 B sp hb q gf cf kn9H kn9R t wA w3 := h9
  have HFr : Hid (∀ {H' : List Int} {R' : Nat → List Int} {t' : Nat} {W : World}, K9 B sp hb q gf cf H' R' t' wA W → Kp [] w W) := Lib.hid fun h => (HK.out.trans hkA).trans (kp_of_below (hz2 ▸ h.bel))
  have H9 := Lib.hid (And.intro ht h9)
  clear ht h9 hm hz2 hkA hB HMa HMd
  obtain ⟨c0, c1, c2, c3, c4, c5, c6⟩ := H9.out.2.cells
  have HS : Hid (∀ wx, Kp [] w3 wx → wx.cell? ⟨hb, 0, none⟩ = some (.pointer (some ⟨sp, 0, none⟩)) ∧ wx.cell? ⟨sp, 0, none⟩ = some (.pointer (some ⟨B + 1, 0, none⟩)) ∧ wx.cell? ⟨sp, 1, none⟩ = some (.int .i64 1) ∧ wx.cell? ⟨sp, 2, none⟩ = some (.int .i64 0) ∧ wx.cell? ⟨sp, 3, none⟩ = some (.int .i64 1) ∧ wx.cell? ⟨sp, 4, none⟩ = some (.slice (some ⟨gf, 0, none⟩) 1 cf) ∧ wx.cell? ⟨gf, 0, none⟩ = some (.pointer (some ⟨q, 0, none⟩))) := Lib.hid fun wx k => (H9.out.2.on k).cells
  go_wp2_with fail
  go_cut [3] (fun v we => v = .int .i64 0 ∧ Hid (K9 B sp hb q gf cf kn9a.1 kn9a.2 (t + 40) wA we))
  case first =>
    go_region_held3 (fun wx => wx.cell? ⟨hb, 0, none⟩ = some (.pointer (some ⟨sp, 0, none⟩)) ∧ wx.cell? ⟨sp, 0, none⟩ = some (.pointer (some ⟨B + 1, 0, none⟩)) ∧ wx.cell? ⟨sp, 1, none⟩ = some (.int .i64 1) ∧ wx.cell? ⟨sp, 2, none⟩ = some (.int .i64 0) ∧ wx.cell? ⟨sp, 3, none⟩ = some (.int .i64 1) ∧ wx.cell? ⟨sp, 4, none⟩ = some (.slice (some ⟨gf, 0, none⟩) 1 cf) ∧ wx.cell? ⟨gf, 0, none⟩ = some (.pointer (some ⟨q, 0, none⟩)))
      (first
        | with_reducible assumption
        | exact K9.cells R8.out
        | exact (K9.cells (R8.out.on ((Kp.refl [] _).drew)))
        | (refine HS.out _ ?_
           repeat (first | with_reducible exact Kp.refl _ _ | with_reducible refine Kp.drew ?_)))
      (first
        | (go_at_call 19
           refine Calls.mono ((H9.out.2.on ((Kp.refl [] _).drew)).sweep (by have := H9.out.1; omega)) ?_
           rintro e w8 ⟨rfl, q8⟩
           have R8 := Lib.hid q8
           clear q8))
    all_goals
      rename_i hHeld
      clear hHeld
    all_goals go_wp2_with fail
    all_goals go_meet
    all_goals exact ⟨rfl, R8⟩
  case rest =>
    obtain ⟨rfl, HK4⟩ := hcut
    obtain ⟨w4, rfl⟩ : ∃ w4 : World, w4 = wc := ⟨_, rfl⟩
    clear c0 c1 c2 c3 c4 c5 c6 HS
    obtain ⟨c0, c1, c2, c3, c4, c5, c6⟩ := HK4.out.cells
    have HLe := Lib.hid HK4.out.len
    rw [show (kn9a.2 0).length = 15 from kn9_v.1] at HLe
    have HRd := Lib.hid (HK4.out.read (by have := H9.out.1; omega))
    rw [kn9_v.2.1] at HRd
    go_wp2_with fail
    refine HLe.out.mono ?_
    rintro e w5 ⟨rfl, rfl⟩
    go_wp2_with fail
    refine HRd.out.mono ?_
    rintro e w5 ⟨rfl, h5⟩
    have H5 := Lib.hid h5
    clear h5 c0 c1 c2 c3 c4 c5 c6 HLe HRd
    obtain ⟨c0, c1, c2, c3, c4, c5, c6⟩ := H5.out.cells
    have HS5 : Hid (∀ wx, Kp [] w5 wx → wx.cell? ⟨hb, 0, none⟩ = some (.pointer (some ⟨sp, 0, none⟩)) ∧ wx.cell? ⟨sp, 0, none⟩ = some (.pointer (some ⟨B + 1, 0, none⟩)) ∧ wx.cell? ⟨sp, 1, none⟩ = some (.int .i64 1) ∧ wx.cell? ⟨sp, 2, none⟩ = some (.int .i64 0) ∧ wx.cell? ⟨sp, 3, none⟩ = some (.int .i64 1) ∧ wx.cell? ⟨sp, 4, none⟩ = some (.slice (some ⟨gf, 0, none⟩) 1 cf) ∧ wx.cell? ⟨gf, 0, none⟩ = some (.pointer (some ⟨q, 0, none⟩))) := Lib.hid fun wx k => (H5.out.on k).cells
    go_wp2_with fail
    go_cut [6] (fun v we => v = .int .i64 0 ∧ Hid (K9 B sp hb q gf cf kn9b.1 kn9b.2 (t + 40 + 1 + 40) wA we))
    case first =>
      go_region_held3 (fun wx => wx.cell? ⟨hb, 0, none⟩ = some (.pointer (some ⟨sp, 0, none⟩)) ∧ wx.cell? ⟨sp, 0, none⟩ = some (.pointer (some ⟨B + 1, 0, none⟩)) ∧ wx.cell? ⟨sp, 1, none⟩ = some (.int .i64 1) ∧ wx.cell? ⟨sp, 2, none⟩ = some (.int .i64 0) ∧ wx.cell? ⟨sp, 3, none⟩ = some (.int .i64 1) ∧ wx.cell? ⟨sp, 4, none⟩ = some (.slice (some ⟨gf, 0, none⟩) 1 cf) ∧ wx.cell? ⟨gf, 0, none⟩ = some (.pointer (some ⟨q, 0, none⟩)))
        (first
          | with_reducible assumption
          | exact K9.cells R8.out
          | exact (K9.cells (R8.out.on ((Kp.refl [] _).drew)))
          | (refine HS5.out _ ?_
             repeat (first | with_reducible exact Kp.refl _ _ | with_reducible refine Kp.drew ?_)))
        (first
          | (go_at_call 19
             refine Calls.mono ((H5.out.on ((Kp.refl [] _).drew)).sweep (by have := H9.out.1; omega)) ?_
             rintro e w8 ⟨rfl, q8⟩
             have R8 : Hid (K9 B sp hb q gf cf kn9b.1 kn9b.2 (t + 40 + 1 + 40) wA w8) := Lib.hid q8
             clear q8))
      all_goals
        rename_i hHeld
        clear hHeld
      all_goals go_wp2_with fail
      all_goals go_meet
      all_goals exact ⟨rfl, R8⟩
    case rest =>
      obtain ⟨rfl, HK6⟩ := hcut
      obtain ⟨w6, rfl⟩ : ∃ w6 : World, w6 = wc := ⟨_, rfl⟩
      clear c0 c1 c2 c3 c4 c5 c6 HS5
      obtain ⟨c0, c1, c2, c3, c4, c5, c6⟩ := HK6.out.cells
      have HRd := Lib.hid (HK6.out.read (by have := H9.out.1; omega))
      rw [kn9_v.2.2.1] at HRd
      go_wp2_with fail
      refine HRd.out.mono ?_
      rintro e w7 ⟨rfl, h7⟩
      have H7 := Lib.hid h7
      clear h7 c0 c1 c2 c3 c4 c5 c6 HRd
      obtain ⟨c0, c1, c2, c3, c4, c5, c6⟩ := H7.out.cells
      have HLe := Lib.hid H7.out.len
      rw [show (kn9b.2 0).length = 0 from kn9_v.2.2.2] at HLe
      go_wp2_with fail
      refine HLe.out.mono ?_
      rintro e w8 ⟨rfl, rfl⟩
      have HF := Lib.hid (HFr.out H7.out)
      clear c0 c1 c2 c3 c4 c5 c6 HLe
      go_wp2_with fail
      go_ret
      exact ⟨rfl, HF.out⟩
end Go.Proofs.YticbnckikkdknaaGreatDoor

namespace Go.Proofs.YticbnckikkdknaaGreatDoor
set_option linter.unusedVariables false
set_option linter.unusedSimpArgs false
set_option maxRecDepth 100000
open Go.RowKit

/-- No memory; no list. -/
theorem sweep_nil1 (w : World) (T G n o : Int) (q : Option Addr) (wk : Bool) : Calls Tryz.prog 19 #[.nilIface, .agg #[.int .i64 T, .int .i64 G, .int .i64 n], .int .u8 o, .pointer q, .bool wk] w fun e w' => e = .returned (.int .i64 1) ∧ Kp [] w w' := by
  have HK : Hid (Kp [] w (w.alloc (.cells #[.int .i64 T, .int .i64 G, .int .i64 n] 33))) := Lib.hid ((Kp.refl _ _).alloc _)
  go_enter Tryz.func19, Tryz.ntmps19
  go_wp2_with fail
  go_ret
  exact ⟨rfl, HK.out⟩
theorem sweep_nil2 (w : World) (p : Nat) (T G n o : Int) (wk : Bool) : Calls Tryz.prog 19 #[.iface 31 (.pointer (some ⟨p, 0, none⟩)), .agg #[.int .i64 T, .int .i64 G, .int .i64 n], .int .u8 o, .pointer none, .bool wk] w fun e w' => e = .returned (.int .i64 1) ∧ Kp [] w w' := by
  have HK : Hid (Kp [] w (w.alloc (.cells #[.int .i64 T, .int .i64 G, .int .i64 n] 33))) := Lib.hid ((Kp.refl _ _).alloc _)
  go_enter Tryz.func19, Tryz.ntmps19
  go_wp2_with fail
  go_ret
  exact ⟨rfl, HK.out⟩
def kn1 : List Th := [⟨0, 0, 1, false, 0, []⟩]
abbrev kn1S : As := { (makesN 1 1 kn1 1).1 with H := kidsN (makesN 1 1 kn1 1).2 kn1 (makesN 1 1 kn1 1).1.H 1 }
set_option maxHeartbeats 8000000 in
theorem snil_any (HMd : Hid CMade) (w : World) (T0 : Cl.Tab w) (o : Int) (wk : Bool) : Calls Tryz.prog 5 #[.int .u8 o, .bool wk] w fun e w' => e = .returned (.bool true) ∧ Kp [] w w' := by
  obtain ⟨w2, hw2⟩ : ∃ w2, w2 = w.alloc (.cells #[.int .u8 0, .int .u8 0, .int .u8 1, .bool false, .int .u8 0, .slice none 0 0] 77) := ⟨_, rfl⟩
  have K12 : Kp [] w w2 := by rw [hw2]; exact (Kp.refl _ _).alloc _
  have q1 : w2.heap[w.heap.size]? = some (.cells #[.int .u8 0, .int .u8 0, .int .u8 1, .bool false, .int .u8 0, .slice none 0 0] 77 (0, 0)) := by rw [hw2]; exact heap_alloc_new _ _
  have hA : Tgs w2 (some ⟨w.heap.size, 0, none⟩) kn1 := by
    have cl : ∀ i, w2.cell? ⟨w.heap.size, i, none⟩ = _ := fun i => cell_of_row q1 i
    intro j hj
    have hj0 : j = 0 := by have : j < 1 := hj; omega
    subst hj0
    exact ⟨w.heap.size, 0, rfl, ⟨cl 0, cl 1, cl 2, cl 3, cl 4, none, 0, cl 5, fun k hk => absurd (show k < 0 from hk) (Nat.not_lt_zero _)⟩, ⟨by decide, by decide, by decide, by decide, fun k => by exact Nat.zero_le _⟩⟩
  have hN2 : Nms w2 none [] := fun j hj => absurd hj (Nat.not_lt_zero _)
  have hma := made19 HMd w2 (tab_keep T0 K12 (by simp)) 1 1 (by decide) (by decide) (by decide) (by decide) (some ⟨w.heap.size, 0, none⟩) none none 1 0 0 kn1 (by decide) hA [] [] (by decide) hN2 (by decide) hN2 kn1S rfl _ rfl
  have HMa := Lib.hid hma
  have HK := Lib.hid K12
  have HWk := Lib.hid (fun (wq : World) (kq : Kp [] w wq) => wakes19 HMd wq (tab_keep T0 kq (by simp)))
  clear hma hA hN2 K12 q1 T0
  go_enter Tryz.func5, Tryz.ntmps5
  go_wp2_with fail
  rw [← hw2]
  clear hw2
  refine Calls.mono HMa.out ?_
  rintro e w3 ⟨sp, hb, qs, t, ht, rfl, hm⟩
  obtain ⟨q, gf, cf, h9⟩ := k9_of hm
  have hz2 : (w2.alloc (.cells #[.slice none ([] : List Nat).length 0, .slice none ([] : List Nat).length 0] 64)).heap.size = w2.heap.size + 1 := World.size_alloc _ _
  have hkA : Kp [] w2 (w2.alloc (.cells #[.slice none ([] : List Nat).length 0, .slice none ([] : List Nat).length 0] 64)) := (Kp.refl _ _).alloc _
  generalize (w2.alloc (.cells #[.slice none ([] : List Nat).length 0, .slice none ([] : List Nat).length 0] 64)) = wA at *
  obtain ⟨B, hB⟩ : ∃ B, B = w2.heap.size + 1 := ⟨_, rfl⟩
  rw [← hB] at h9 hz2 hm
  have HW3 : Hid (Kp [] w w3) := Lib.hid ((HK.out.trans hkA).trans (kp_of_below (hz2 ▸ h9.bel)))
  have HSa := Lib.hid (fun (wq : World) (kq : Kp [] w3 wq) => (hm.on kq).same (by decide) (by decide) (by decide))
  have H9 := Lib.hid h9
  clear ht h9 hm hz2 hkA hB HMa HMd
  obtain ⟨c0, c1, c2, c3, c4, c5, c6⟩ := H9.out.cells
  have HS : Hid (∀ wx, Kp [] w3 wx → wx.cell? ⟨hb, 0, none⟩ = some (.pointer (some ⟨sp, 0, none⟩)) ∧ wx.cell? ⟨sp, 0, none⟩ = some (.pointer (some ⟨B + 1, 0, none⟩)) ∧ wx.cell? ⟨sp, 1, none⟩ = some (.int .i64 1) ∧ wx.cell? ⟨sp, 2, none⟩ = some (.int .i64 0) ∧ wx.cell? ⟨sp, 3, none⟩ = some (.int .i64 1) ∧ wx.cell? ⟨sp, 4, none⟩ = some (.slice (some ⟨gf, 0, none⟩) 1 cf) ∧ wx.cell? ⟨gf, 0, none⟩ = some (.pointer (some ⟨q, 0, none⟩)) ∧ Kp [] w3 wx) := Lib.hid fun wx k => by
    obtain ⟨d0, d1, d2, d3, d4, d5, d6⟩ := (H9.out.on k).cells
    exact ⟨d0, d1, d2, d3, d4, d5, d6, k⟩
  have k0 : Kp [] w3 w3 := Kp.refl _ _
  go_wp2_with fail
  go_region_held3 (fun wx => wx.cell? ⟨hb, 0, none⟩ = some (.pointer (some ⟨sp, 0, none⟩)) ∧ wx.cell? ⟨sp, 0, none⟩ = some (.pointer (some ⟨B + 1, 0, none⟩)) ∧ wx.cell? ⟨sp, 1, none⟩ = some (.int .i64 1) ∧ wx.cell? ⟨sp, 2, none⟩ = some (.int .i64 0) ∧ wx.cell? ⟨sp, 3, none⟩ = some (.int .i64 1) ∧ wx.cell? ⟨sp, 4, none⟩ = some (.slice (some ⟨gf, 0, none⟩) 1 cf) ∧ wx.cell? ⟨gf, 0, none⟩ = some (.pointer (some ⟨q, 0, none⟩)) ∧ Kp [] w3 wx)
    (first
      | with_reducible assumption
      | (refine HS.out _ ?_
         repeat (first
           | with_reducible first
            | exact K9.out
            | exact K8.out
            | exact K7.out
            | exact K6.out
            | exact Kp.refl _ _
           | with_reducible refine Kp.drew ?_)))
    (first
      | (go_at_call 19
         first
           | (with_reducible refine Calls.mono (sweep_nil1 _ _ _ _ _ _ _) ?_
              rintro e w6 ⟨rfl, k6⟩
              have K6 : Hid (Kp [] w3 w6) := Lib.hid (by
                refine Kp.trans ?_ k6
                repeat (first | with_reducible exact Kp.refl _ _ | with_reducible refine Kp.drew ?_))
              clear k6)
           | (with_reducible refine Calls.mono (sweep_nil2 _ _ _ _ _ _ _) ?_
              rintro e w7 ⟨rfl, k7⟩
              have K7 : Hid (Kp [] w3 w7) := Lib.hid (by
                refine Kp.trans ?_ k7
                repeat (first | with_reducible exact K6.out | with_reducible exact Kp.refl _ _ | with_reducible refine Kp.drew ?_))
              clear k7))
      | (go_at_call 20
         refine Calls.mono (HSa.out _ ?hk) ?_
         case hk => repeat (first | with_reducible exact K7.out | with_reducible exact Kp.refl _ _ | with_reducible refine Kp.drew ?_)
         rintro e w8 ⟨rfl, k8⟩
         have K8 : Hid (Kp [] w3 w8) := Lib.hid (by
           refine Kp.trans ?_ k8
           repeat (first | with_reducible exact K7.out | with_reducible exact Kp.refl _ _ | with_reducible refine Kp.drew ?_))
         clear k8)
      | (go_at_call 16
         refine Calls.mono (HWk.out _ (HW3.out.trans ?hk)) ?_
         case hk => repeat (first | with_reducible exact K8.out | with_reducible exact Kp.refl _ _ | with_reducible refine Kp.drew ?_)
         rintro e w9 ⟨rfl, k9⟩
         have K9 : Hid (Kp [] w3 w9) := Lib.hid (by
           refine Kp.trans ?_ k9
           repeat (first | with_reducible exact K8.out | with_reducible exact Kp.refl _ _ | with_reducible refine Kp.drew ?_))
         clear k9))
  all_goals
    rename_i hHeld
    clear hHeld
  all_goals go_wp2_with fail
  all_goals go_ret
  all_goals exact ⟨rfl, HW3.out.trans K9.out⟩
end Go.Proofs.YticbnckikkdknaaGreatDoor

namespace Go.Proofs.YticbnckikkdknaaGreatDoor
open Go.ChangeShapes Go.WideShapes Go.ChangeAt Go.RowKit

theorem Tryz.own : ownKnob Tryz.prog.godebug = none := by kernel_rfl
theorem Tryz.laidOut : laidOutB Tryz.prog = true := by kernel_rfl
theorem gTab : Tryz.prog.globalNamed "demesne/class.rooms" = some 0 := by kernel_rfl
theorem gTabType : (Tryz.prog.globals[0]?).map (·.type) = some 199 := by kernel_rfl
theorem gTabCells : Tryz.prog.cellsOf 199 = 4 := by kernel_rfl
theorem gIntCells : Tryz.prog.cellsOf 3 = 1 := by kernel_rfl

/-- What the rows' list gives: the table's cells hold its four numbers. -/
theorem tab_of {W : World} (h : laidMetH Tryz.prog [("demesne/class.rooms", Rows.laid_demesne_class_rooms)] W) : Cl.Tab W := by
  have t : Lib.TabIs Tryz.prog W "demesne/class.rooms" .i64 [1, 2, 4, 8] := Lib.tabIs_of_head (rest := []) gTab gTabType Tryz.underlying199 Tryz.underlying3 gIntCells gTabCells h
  exact ⟨t.cell gTab 0 (by decide), t.cell gTab 1 (by decide), t.cell gTab 2 (by decide), t.cell gTab 3 (by decide)⟩

/-- The settled world, the table laid into it. -/
noncomputable def laidWorld (os : Os) : World :=
  { World.holding Tryz.prog os ⟨#[], #[], []⟩ with heap := (World.holding Tryz.prog os ⟨#[], #[], []⟩).heap.modify 0 fun
      | .cells _ t frozen => .cells #[.int .i64 1, .int .i64 2, .int .i64 4, .int .i64 8] t frozen
      | o => o }

end Go.Proofs.YticbnckikkdknaaGreatDoor
