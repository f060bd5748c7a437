/-
  What RondBounds is run with: numbers that lie somewhere.
-/
import Derived.Test.YthlfcjpjhajaaaaGreatCanonY
namespace Go.Proofs.YthlfcjpjhajaaaaGreat
open Canon

theorem wf_range {n : Int} (h : (Lit.int .i64 n).wf = true) : -9223372036854775808 ≤ n ∧ n ≤ 9223372036854775807 := by
  have h1 : IntKind.i64.min = -9223372036854775808 := rfl
  have h2 : IntKind.i64.max = 9223372036854775807 := rfl
  simp only [Lit.wf, Bool.and_eq_true, decide_eq_true_eq] at h
  omega

/-- What the numbers are that bear names. -/
def vals_RondBounds (a b c d : Int) (i : Nat) : Nat := if i = 0 then (a + 9223372036854775808).toNat else if i = 1 then (b + 9223372036854775808).toNat else if i = 2 then (c + 9223372036854775808).toNat else (d + 9223372036854775808).toNat

def opsA : Nat := 273406340597876490546563004546126962302340365524292866275526418439773139800166816554166821494718464
theorem opsA_is : kId opsA = 0 ∧ kLo opsA = (-9223372036854775808) ∧ kHi opsA = (-1) ∧ kA opsA = 1 ∧ kB opsA = 0 := by decide +kernel

def opsB : Nat := 273406340597876490546563004546126962302340365524292866275526418439776234959752401009440572852666368
theorem opsB_is : kId opsB = 0 ∧ kLo opsB = (0) ∧ kHi opsB = (10000) ∧ kA opsB = 1 ∧ kB opsB = 0 := by decide +kernel

def opsC : Nat := 273406340597876490546563004546126962302340365524292869130021803851692901916741116636398529085378816
theorem opsC_is : kId opsC = 0 ∧ kLo opsC = (10001) ∧ kHi opsC = (9223372036854775807) ∧ kA opsC = 1 ∧ kB opsC = 0 := by decide +kernel

def mostA : Nat := 273406340597876490546563004546126962302340365524292866275526418439773140109651826375511890219499521
theorem mostA_is : kId mostA = 1 ∧ kLo mostA = (-9223372036854775808) ∧ kHi mostA = (0) ∧ kA mostA = 1 ∧ kB mostA = 0 := by decide +kernel

def mostB : Nat := 273406340597876490546563004546126962302340365524292869130021803851692901916741116636398529082818817
theorem mostB_is : kId mostB = 1 ∧ kLo mostB = (1) ∧ kHi mostB = (9223372036854775807) ∧ kA mostB = 1 ∧ kB mostB = 0 := by decide +kernel

def opsV (i : Nat) : Value := bif Nat.beq i 0 then .chan (some opsA) else bif Nat.beq i 1 then .chan (some opsB) else .chan (some opsC)
def mostV (j : Nat) : Value := bif Nat.beq j 0 then .chan (some mostA) else .chan (some mostB)
def mk_RondBounds (k : Nat) : List Value := fNat (k / 2 % 3) fun i => fNat (k % 2) fun j => [opsV i, mostV j]

end Go.Proofs.YthlfcjpjhajaaaaGreat
