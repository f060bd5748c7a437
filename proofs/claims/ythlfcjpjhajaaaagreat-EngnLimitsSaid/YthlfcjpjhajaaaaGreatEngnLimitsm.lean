/-
  What EngnLimits is run with: numbers that lie somewhere.
-/
import Derived.Test.YthlfcjpjhajaaaaGreatCanonY
namespace Go.Proofs.YthlfcjpjhajaaaaGreat
open Canon

theorem wf_range {n : Int} (h : (Lit.int .i64 n).wf = true) : -9223372036854775808 ≤ n ∧ n ≤ 9223372036854775807 := by
  have h1 : IntKind.i64.min = -9223372036854775808 := rfl
  have h2 : IntKind.i64.max = 9223372036854775807 := rfl
  simp only [Lit.wf, Bool.and_eq_true, decide_eq_true_eq] at h
  omega

/-- What the numbers are that bear names. -/
def vals_EngnLimits (a b c d : Int) (i : Nat) : Nat := if i = 0 then (a + 9223372036854775808).toNat else if i = 1 then (b + 9223372036854775808).toNat else if i = 2 then (c + 9223372036854775808).toNat else (d + 9223372036854775808).toNat

def deltaA : Nat := 273406340597876490546563004546126962302340365524292869130021803851692901916738755453157094260211712
theorem deltaA_is : kId deltaA = 0 ∧ kLo deltaA = (-9223372036854775808) ∧ kHi deltaA = (9223372036854775807) ∧ kA deltaA = 1 ∧ kB deltaA = 0 := by decide +kernel

def groupsA : Nat := 273406340597876490546563004546126962302340365524292869130021803851692901916738755453157094260211713
theorem groupsA_is : kId groupsA = 1 ∧ kLo groupsA = (-9223372036854775808) ∧ kHi groupsA = (9223372036854775807) ∧ kA groupsA = 1 ∧ kB groupsA = 0 := by decide +kernel

def groupsB : Nat := 273406340597876490546563004546126962302340365524292866275526418439773140109651826375511890219499521
theorem groupsB_is : kId groupsB = 1 ∧ kLo groupsB = (-9223372036854775808) ∧ kHi groupsB = (0) ∧ kA groupsB = 1 ∧ kB groupsB = 0 := by decide +kernel

def groupsC : Nat := 273406340597876490546563004546126962302340365524292869130021803851692901916741116636398529082818817
theorem groupsC_is : kId groupsC = 1 ∧ kLo groupsC = (1) ∧ kHi groupsC = (9223372036854775807) ∧ kA groupsC = 1 ∧ kB groupsC = 0 := by decide +kernel

def clientA : Nat := 273406340597876490546563004546126962302340365524292866275526418439773139800166816554166821494718466
theorem clientA_is : kId clientA = 2 ∧ kLo clientA = (-9223372036854775808) ∧ kHi clientA = (-1) ∧ kA clientA = 1 ∧ kB clientA = 0 := by decide +kernel

def clientB : Nat := 273406340597876490546563004546126962302340365524292869130021803851692901916741116636398529082820610
theorem clientB_is : kId clientB = 2 ∧ kLo clientB = (8) ∧ kHi clientB = (9223372036854775807) ∧ kA clientB = 1 ∧ kB clientB = 0 := by decide +kernel

def kindA : Nat := 273406340597876490546563004546126962302340365524292866275526418439773140109651826375511890219499523
theorem kindA_is : kId kindA = 3 ∧ kLo kindA = (-9223372036854775808) ∧ kHi kindA = (0) ∧ kA kindA = 1 ∧ kB kindA = 0 := by decide +kernel

def kindB : Nat := 273406340597876490546563004546126962302340365524292869130021803851692901916741116636398529082819587
theorem kindB_is : kId kindB = 3 ∧ kLo kindB = (4) ∧ kHi kindB = (9223372036854775807) ∧ kA kindB = 1 ∧ kB kindB = 0 := by decide +kernel

def groupsV (g : Nat) : Value := bif Nat.beq g 1 then .chan (some groupsB) else bif Nat.beq g 2 then .chan (some groupsC) else .chan (some groupsA)
def kindV (g : Nat) : Value := bif Nat.beq g 0 then .chan (some kindA) else bif Nat.ble g 2 then .int .i64 1 else bif Nat.beq g 3 then .int .i64 2 else bif Nat.beq g 4 then .int .i64 3 else .chan (some kindB)
def clientV (i : Nat) : Value := bif Nat.beq i 0 then .chan (some clientA) else bif Nat.beq i 9 then .chan (some clientB) else .int .i64 (.ofNat (i - 1))
def mk_EngnLimits (k : Nat) : List Value := fNat (k / 6 % 10) fun i => fNat (k % 6) fun g => [.chan (some deltaA), groupsV g, clientV i, kindV g]

end Go.Proofs.YthlfcjpjhajaaaaGreat
