/-
  Rows of stam's Sees, run.
-/
import Derived.Test.YtnjeoolbnanmiaaSeesm
namespace Go.Proofs.Ytnjeoolbnanmiaa
open Canon

theorem sees_0 : pairsO Try.prog orc_sees 60 18 args_sees (wb_sees true) (wl_sees true) 0 28 = true := by kernel_rfl
theorem sees_28 : pairsO Try.prog orc_sees 60 18 args_sees (wb_sees true) (wl_sees true) 28 28 = true := by kernel_rfl
theorem sees_56 : pairsO Try.prog orc_sees 60 18 args_sees (wb_sees true) (wl_sees true) 56 28 = true := by kernel_rfl
theorem sees_84 : pairsO Try.prog orc_sees 60 18 args_sees (wb_sees true) (wl_sees true) 84 28 = true := by kernel_rfl
theorem sees_112 : pairsO Try.prog orc_sees 60 18 args_sees (wb_sees true) (wl_sees true) 112 28 = true := by kernel_rfl
theorem sees_140 : pairsO Try.prog orc_sees 60 18 args_sees (wb_sees true) (wl_sees true) 140 28 = true := by kernel_rfl
theorem sees_168 : pairsO Try.prog orc_sees 60 18 args_sees (wb_sees true) (wl_sees true) 168 28 = true := by kernel_rfl
theorem sees_196 : pairsO Try.prog orc_sees 60 18 args_sees (wb_sees true) (wl_sees true) 196 28 = true := by kernel_rfl
theorem sees_224 : pairsO Try.prog orc_sees 60 18 args_sees (wb_sees true) (wl_sees true) 224 28 = true := by kernel_rfl
theorem sees_252 : pairsO Try.prog orc_sees 60 18 args_sees (wb_sees true) (wl_sees true) 252 28 = true := by kernel_rfl
theorem sees_280 : pairsO Try.prog orc_sees 60 18 args_sees (wb_sees true) (wl_sees true) 280 28 = true := by kernel_rfl
theorem sees_308 : pairsO Try.prog orc_sees 60 18 args_sees (wb_sees true) (wl_sees true) 308 28 = true := by kernel_rfl
theorem sees_336 : pairsO Try.prog orc_sees 60 18 args_sees (wb_sees true) (wl_sees true) 336 28 = true := by kernel_rfl
theorem sees_364 : pairsO Try.prog orc_sees 60 18 args_sees (wb_sees true) (wl_sees true) 364 28 = true := by kernel_rfl

end Go.Proofs.Ytnjeoolbnanmiaa
