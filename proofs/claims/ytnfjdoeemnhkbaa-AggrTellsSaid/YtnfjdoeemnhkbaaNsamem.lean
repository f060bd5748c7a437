import Derived.Test.YtnfjdoeemnhkbaaLsix
import Derived.Test.YtnfjdoeemnhkbaaLseven
import Derived.Deep.CutBlock
import Derived.Deep.DeepCutAuto
import Derived.Deep.RegionLaw
import Derived.Test.YtnfjdoeemnhkbaaNtim
import Derived.Test.YtnfjdoeemnhkbaaRefk
set_option linter.unusedVariables false
set_option linter.unusedSimpArgs false
namespace Go.Proofs.Ytnfjdoeemnhkbaa
open Go.RowKit
open _root_.List renaming length_map -> Qa, mem_map -> Qb, getD_eq_getElem?_getD -> Qc
theorem zJd (n : Int) : Kinds (kindsOf n) ∧ (kindsOf n).length <= 5 := by
 refine ⟨fun c hc => ?_, ?_⟩
 ·unfold kindsOf at hc
  obtain ⟨k, _, rfl⟩ := Qb.1 hc
  show _ % 2 + 1 = 1 ∨ _ % 2 + 1 = 2
  omega
 ·unfold kindsOf
  rw [Qa, List.length_range]
  omega
def colsN (n : Int) : List Co := colsOf (kindsOf n)
theorem zNx (n : Int) : ColsOk (colsN n) := zMc (zJd n).1 (zJd n).2
theorem zFv (n : Int) : (colsN n).length = (kindsOf n).length + 1 := zE3 _
theorem zMq (n : Int) (w : World) :
  Calls Try.prog 9 #[.int .i64 n] w fun e w' => ∃ ao cap, e = .returned (.agg #[.slice ao (colsN n).length cap]) ∧ RdSK w.heap.size w' 3 (.slice ao (colsN n).length cap) ((colsN n).map Co.cells) ∧ Below w.heap.size w w' := by
 refine (zL8 n w).mono ?_
 rintro e w' ⟨ao, cap, l, rfl, h2, h3, h4, h5, rfl⟩
 refine ⟨ao, cap, by rw [zFv], ?_, h5⟩
 rw [zFv]
 exact zGy (ls := (colsN n).map Co.cells) (by rw [zNi] at h4; exact h4) (by rw [Qa, zFv]) (fun t ht => by obtain ⟨x, _, rfl⟩ := Qb.1 ht; rfl)
def colOf (cols : List Co) (n : Int) : Nat := (n / 8 % 256).toNat % cols.length
def nilV : Vc := ⟨false, 0, 0, []⟩
def cmpV (cols : List Co) (n : Int) : Vc := match cols[colOf cols n]? with
 | none => nilV
 | some c => if colOf cols n = 0 then ⟨false, 1, n / 2048 % 16, []⟩ else valOf ⟨c.n, c.k, false⟩ (n / 2048)
theorem zIb {K : Nat} {w : World} {s : Value} {bs : List Nat} (h : Rd w s (bs.map u8v)) (hf : FreshV K s) : RdB K w s bs := by
 obtain ⟨ao, cap, rfl, hn, hc⟩ := h
 simp only [Qa] at hn hc hf ⊢
 refine ⟨ao, cap, rfl, hn, fun hp => ?_⟩
 obtain ⟨b, off, rfl, h3⟩ := hc hp
 refine ⟨b, off, rfl, hf _ _ _ rfl, fun i hi => ?_⟩
 rw [h3 i hi, Qc, Qc, List.getElem?_map, List.getElem?_eq_getElem hi]
 rfl
def want (nt : Bool) : Int := if nt = true then 2 else 1
end Go.Proofs.Ytnfjdoeemnhkbaa
