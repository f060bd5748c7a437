/-
  Rows of stam's Sees, run.
-/
import Derived.Test.YtnjeoolbnanmiaaSeesm
namespace Go.Proofs.Ytnjeoolbnanmiaa
open Canon

theorem sees_392 : pairsO Try.prog orc_sees 60 18 args_sees (wb_sees true) (wl_sees true) 392 28 = true := by kernel_rfl
theorem sees_420 : pairsO Try.prog orc_sees 60 18 args_sees (wb_sees true) (wl_sees true) 420 28 = true := by kernel_rfl
theorem sees_448 : pairsO Try.prog orc_sees 60 18 args_sees (wb_sees true) (wl_sees true) 448 28 = true := by kernel_rfl
theorem sees_476 : pairsO Try.prog orc_sees 60 18 args_sees (wb_sees true) (wl_sees true) 476 28 = true := by kernel_rfl
theorem sees_504 : pairsO Try.prog orc_sees 60 18 args_sees (wb_sees true) (wl_sees true) 504 28 = true := by kernel_rfl
theorem sees_532 : pairsO Try.prog orc_sees 60 18 args_sees (wb_sees true) (wl_sees true) 532 28 = true := by kernel_rfl
theorem sees_560 : pairsO Try.prog orc_sees 60 18 args_sees (wb_sees true) (wl_sees true) 560 28 = true := by kernel_rfl
theorem sees_588 : pairsO Try.prog orc_sees 60 18 args_sees (wb_sees true) (wl_sees true) 588 28 = true := by kernel_rfl
theorem sees_616 : pairsO Try.prog orc_sees 60 18 args_sees (wb_sees true) (wl_sees true) 616 28 = true := by kernel_rfl
theorem sees_644 : pairsO Try.prog orc_sees 60 18 args_sees (wb_sees true) (wl_sees true) 644 28 = true := by kernel_rfl
theorem sees_672 : pairsO Try.prog orc_sees 60 18 args_sees (wb_sees true) (wl_sees true) 672 28 = true := by kernel_rfl
theorem sees_700 : pairsO Try.prog orc_sees 60 18 args_sees (wb_sees true) (wl_sees true) 700 28 = true := by kernel_rfl
theorem sees_728 : pairsO Try.prog orc_sees 60 18 args_sees (wb_sees true) (wl_sees true) 728 28 = true := by kernel_rfl
theorem sees_756 : pairsO Try.prog orc_sees 60 18 args_sees (wb_sees true) (wl_sees true) 756 28 = true := by kernel_rfl

end Go.Proofs.Ytnjeoolbnanmiaa
