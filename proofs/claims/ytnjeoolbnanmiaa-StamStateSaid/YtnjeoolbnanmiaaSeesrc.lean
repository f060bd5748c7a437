/-
  Rows of stam's Base, run.
-/
import Derived.Test.YtnjeoolbnanmiaaSeesm
namespace Go.Proofs.Ytnjeoolbnanmiaa
open Canon

theorem base_0 : pairsO Try.prog orc_sees 60 19 args_sees (wb_sees false) (wl_sees false) 0 28 = true := by kernel_rfl
theorem base_28 : pairsO Try.prog orc_sees 60 19 args_sees (wb_sees false) (wl_sees false) 28 28 = true := by kernel_rfl
theorem base_56 : pairsO Try.prog orc_sees 60 19 args_sees (wb_sees false) (wl_sees false) 56 28 = true := by kernel_rfl
theorem base_84 : pairsO Try.prog orc_sees 60 19 args_sees (wb_sees false) (wl_sees false) 84 28 = true := by kernel_rfl
theorem base_112 : pairsO Try.prog orc_sees 60 19 args_sees (wb_sees false) (wl_sees false) 112 28 = true := by kernel_rfl
theorem base_140 : pairsO Try.prog orc_sees 60 19 args_sees (wb_sees false) (wl_sees false) 140 28 = true := by kernel_rfl
theorem base_168 : pairsO Try.prog orc_sees 60 19 args_sees (wb_sees false) (wl_sees false) 168 28 = true := by kernel_rfl
theorem base_196 : pairsO Try.prog orc_sees 60 19 args_sees (wb_sees false) (wl_sees false) 196 28 = true := by kernel_rfl
theorem base_224 : pairsO Try.prog orc_sees 60 19 args_sees (wb_sees false) (wl_sees false) 224 28 = true := by kernel_rfl
theorem base_252 : pairsO Try.prog orc_sees 60 19 args_sees (wb_sees false) (wl_sees false) 252 28 = true := by kernel_rfl
theorem base_280 : pairsO Try.prog orc_sees 60 19 args_sees (wb_sees false) (wl_sees false) 280 28 = true := by kernel_rfl
theorem base_308 : pairsO Try.prog orc_sees 60 19 args_sees (wb_sees false) (wl_sees false) 308 28 = true := by kernel_rfl
theorem base_336 : pairsO Try.prog orc_sees 60 19 args_sees (wb_sees false) (wl_sees false) 336 28 = true := by kernel_rfl
theorem base_364 : pairsO Try.prog orc_sees 60 19 args_sees (wb_sees false) (wl_sees false) 364 28 = true := by kernel_rfl

end Go.Proofs.Ytnjeoolbnanmiaa
