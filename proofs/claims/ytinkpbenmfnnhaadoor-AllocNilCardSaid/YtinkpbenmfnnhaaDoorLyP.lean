/- Plain facts on an arena's layout: its numbers as plain functions. Conditions: none beyond the theorems' own. -/
namespace Go.Proofs.YtinkpbenmfnnhaaDoor.Ly

/-- The place of thing k in a row. -/
def rowP (fr things wd k : Int) : Int := if k < 0 ∨ things ≤ k then -1 else fr + k * wd
theorem rowP_out {fr things wd k : Int} (h : k < 0 ∨ things ≤ k) : rowP fr things wd k = -1 := if_pos h
theorem rowP_in {fr things wd k : Int} (h0 : 0 ≤ k) (h1 : k < things) : rowP fr things wd k = fr + k * wd := if_neg (by omega)

/-- In which block a place lies. -/
def inP (fst n at' : Int) : Bool := decide (fst ≤ at') && decide (at' < n)
def blP (fst n at' : Int) : Int := if inP fst n at' then (at' - fst) / 32 else 0
def ofP (fst n at' : Int) : Int := if inP fst n at' then (at' - fst) % 32 else 0

/-- How many words. -/
def nP (t g b : Int) : Int := if b = 0 then 0 else 3 + t + g + 33 * b

end Go.Proofs.YtinkpbenmfnnhaaDoor.Ly
