/- Plain facts on what a header's word tells (layer 13); nothing here speaks of the program. Conditions: as each lemma states them. -/
import Derived.Test.YtjdihjndcpkndaaWordPlain
namespace Go.Proofs.Ytjdihjndcpkndaa
set_option linter.unusedVariables false
set_option linter.unusedSimpArgs false
open Go

/-- A Global object's header. -/
def glob (x : Int) : Bool := takeB x && decide (x % 4 = 3)
/-- What it tells. -/
def tellI (x c : Int) : Int := if glob x = true ∧ c ≤ 1 then (if x / 4 % 2 = c then (if x / 8 % 2 = 1 then 2 else 3) else 1) else 0
/-- The word behind a change of colour and grey. -/
def dyed (x c : Int) (g : Bool) : Int := wordI 3 c (x / 32 % 64) (x / 2048 % 128) (x / 262144 % 128) g false
def shadeI (x c : Int) : Int := if tellI x c = 1 then dyed x c true else x
def metI (x c : Int) : Bool := decide (tellI x c = 1 ∨ tellI x c = 2)
def blackI (x : Int) : Int := if glob x = true then dyed x (x / 4 % 2) false else x

theorem glob_take {x : Int} (h : glob x = true) : takeB x = true ∧ x % 4 = 3 := by
  simpa [glob] using h
theorem glob_may {x c : Int} {g : Bool} (h : glob x = true) (h0 : 0 ≤ c) (h1 : c ≤ 1) : mayB 3 c (x / 32 % 64) (x / 2048 % 128) (x / 262144 % 128) g false = true := by
  obtain ⟨h2, h3⟩ := glob_take h
  simp only [takeB, Bool.and_eq_true] at h2
  have := mayB_iff.1 h2.2
  rw [mayB_iff]
  refine ⟨by omega, by omega, by omega, by omega, by omega, by omega, by simp, by omega⟩
theorem glob_marked {x : Int} (h : glob x = true) : (x / 16 % 2 == 1) = false := by
  obtain ⟨h2, h3⟩ := glob_take h
  simp only [takeB, Bool.and_eq_true] at h2
  have := mayB_iff.1 h2.2
  exact this.2.2.2.2.2.2.1 (by omega)
theorem tell_le (x c : Int) : 0 ≤ tellI x c ∧ tellI x c ≤ 3 := by
  unfold tellI; split <;> (try split) <;> (try split) <;> omega
theorem tell_none {x c : Int} (h : glob x = false ∨ 1 < c) : tellI x c = 0 := by
  unfold tellI
  rw [if_neg]
  rintro ⟨a, b⟩
  rcases h with h | h
  · rw [h] at a; cases a
  · omega
theorem tell_pos {x c : Int} (h : tellI x c ≠ 0) : glob x = true ∧ c ≤ 1 := by
  unfold tellI at h
  split at h
  · assumption
  · exact absurd rfl h
theorem dyed_bounds {x c : Int} {g : Bool} (h : glob x = true) (h0 : 0 ≤ c) (h1 : c ≤ 1) : 0 ≤ dyed x c g ∧ dyed x c g < 33554432 := by
  exact word_lt _ _ _ _ _ _ _ (by omega) h0 (by omega) (by omega) (by omega) (glob_may h h0 h1)
theorem glob_dyed {x c : Int} {g : Bool} (h : glob x = true) (h0 : 0 ≤ c) (h1 : c ≤ 1) : glob (dyed x c g) = true := by
  have hm := glob_may (g := g) h h0 h1
  have e := parts_of_word 3 c (x / 32 % 64) (x / 2048 % 128) (x / 262144 % 128) g false (by omega) h0 (by omega) (by omega) (by omega) hm
  have t := takeB_of_word 3 c (x / 32 % 64) (x / 2048 % 128) (x / 262144 % 128) g false (by omega) h0 (by omega) (by omega) (by omega) hm
  have e1 : dyed x c g % 4 = 3 := e.1
  have t1 : takeB (dyed x c g) = true := t
  simp [glob, t1, e1]

end Go.Proofs.Ytjdihjndcpkndaa
