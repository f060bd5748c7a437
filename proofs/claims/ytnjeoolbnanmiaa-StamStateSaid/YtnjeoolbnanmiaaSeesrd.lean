/-
  Rows of stam's Base, run.
-/
import Derived.Test.YtnjeoolbnanmiaaSeesm
namespace Go.Proofs.Ytnjeoolbnanmiaa
open Canon

theorem base_392 : pairsO Try.prog orc_sees 60 19 args_sees (wb_sees false) (wl_sees false) 392 28 = true := by kernel_rfl
theorem base_420 : pairsO Try.prog orc_sees 60 19 args_sees (wb_sees false) (wl_sees false) 420 28 = true := by kernel_rfl
theorem base_448 : pairsO Try.prog orc_sees 60 19 args_sees (wb_sees false) (wl_sees false) 448 28 = true := by kernel_rfl
theorem base_476 : pairsO Try.prog orc_sees 60 19 args_sees (wb_sees false) (wl_sees false) 476 28 = true := by kernel_rfl
theorem base_504 : pairsO Try.prog orc_sees 60 19 args_sees (wb_sees false) (wl_sees false) 504 28 = true := by kernel_rfl
theorem base_532 : pairsO Try.prog orc_sees 60 19 args_sees (wb_sees false) (wl_sees false) 532 28 = true := by kernel_rfl
theorem base_560 : pairsO Try.prog orc_sees 60 19 args_sees (wb_sees false) (wl_sees false) 560 28 = true := by kernel_rfl
theorem base_588 : pairsO Try.prog orc_sees 60 19 args_sees (wb_sees false) (wl_sees false) 588 28 = true := by kernel_rfl
theorem base_616 : pairsO Try.prog orc_sees 60 19 args_sees (wb_sees false) (wl_sees false) 616 28 = true := by kernel_rfl
theorem base_644 : pairsO Try.prog orc_sees 60 19 args_sees (wb_sees false) (wl_sees false) 644 28 = true := by kernel_rfl
theorem base_672 : pairsO Try.prog orc_sees 60 19 args_sees (wb_sees false) (wl_sees false) 672 28 = true := by kernel_rfl
theorem base_700 : pairsO Try.prog orc_sees 60 19 args_sees (wb_sees false) (wl_sees false) 700 28 = true := by kernel_rfl
theorem base_728 : pairsO Try.prog orc_sees 60 19 args_sees (wb_sees false) (wl_sees false) 728 28 = true := by kernel_rfl
theorem base_756 : pairsO Try.prog orc_sees 60 19 args_sees (wb_sees false) (wl_sees false) 756 28 = true := by kernel_rfl

end Go.Proofs.Ytnjeoolbnanmiaa
