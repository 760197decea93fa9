/- The chapter's example of a journal, on a plain disk, by the kernel. No program here, and no condition. -/
import Derived.Test.YtncpkblgiepdpaaGreatJoS
set_option linter.unusedVariables false
namespace Go.Proofs.YtncpkblgiepdpaaGreat
def chA : DS := (opnE (newE 1000)).1
def chB : DS := (dE chA ⟨0, jn, [], recE 1 [97]⟩).1
def chC : DS := (dE chB ⟨0, jn, [], recE 2 []⟩).1
def chD : DS := (dE chC ⟨1, jn, [], []⟩).1
def chS : DS := (dE chD ⟨0, jn, [], recE 3 [98]⟩).1
set_option maxRecDepth 100000
theorem ch_a : (opnE (newE 1000)).2 = ([], 0) := by decide +kernel
theorem ch_b : (dE chA ⟨0, jn, [], recE 1 [97]⟩).2 = 0 := by decide +kernel
theorem ch_c : (dE chB ⟨0, jn, [], recE 2 []⟩).2 = 0 := by decide +kernel
theorem ch_d : (dE chC ⟨1, jn, [], []⟩).2 = 0 := by decide +kernel
theorem ch_s : (dE chD ⟨0, jn, [], recE 3 [98]⟩).2 = 0 := by decide +kernel
theorem ch_1 : (opnE (bootE (fallE chS []))).2 = ([[97], []], 0) := by decide +kernel
theorem ch_2 : (opnE (bootE (fallE chS [0, 20]))).2 = ([[97], []], 0) := by decide +kernel
theorem ch_3 : (opnE (bootE (fallE chS [0, 21]))).2 = ([[97], [], [98]], 0) := by decide +kernel
end Go.Proofs.YtncpkblgiepdpaaGreat
