/- Roots of squares and cubes, one by one. No program in it. -/
import Derived.Test.YthinlacbnimimaaShaM
namespace Go.Proofs.Ythinlacbnimimaa

def sqZero : Bool := (List.range 30).all fun i => Nat.beq (rootW 2 ((i + 1) * (i + 1))).toNat 0
theorem sqZero_holds : sqZero = true := by decide +kernel
def cubeZero : Bool := (List.range 10).all fun i => Nat.beq (rootW 3 ((i + 1) * (i + 1) * (i + 1))).toNat 0
theorem cubeZero_holds : cubeZero = true := by decide +kernel
def sqMore : Bool := (List.range 999).all fun i => ((List.range 33).any fun k => Nat.beq (k * k) (i + 2)) || Nat.blt (rootW 2 (i + 1)).toNat (rootW 2 (i + 2)).toNat
theorem sqMore_holds : sqMore = true := by decide +kernel

end Go.Proofs.Ythinlacbnimimaa
