import Derived.Test.YtnfjdoeemnhkbaaAgl
import Derived.Test.YtnfjdoeemnhkbaaLsix
set_option linter.unusedVariables false
set_option linter.unusedSimpArgs false
set_option maxRecDepth 100000
set_option maxHeartbeats 8000000
open Go.Lib (hid)
namespace Go.Proofs.Ytnfjdoeemnhkbaa
open Go.RowKit
open _root_.List renaming length_map -> Qa, getElem?_map -> Qb, getElem?_eq_getElem -> Qd, mem_of_getElem? -> Qe
open Go.RowKit.Below renaming refl -> Qc
theorem zDf (E F : List El) (v1 v2 : Value) (w : World) (hl : E.length <= 1000000) (h1 : Rd w v1 (E.map Prod.fst)) (h2 : Rd w v2 (F.map Prod.fst)) (r1 : ∀ x ∈ E, RdP w x.1 x.2 ∧ x.2.length <= 1000000) (r2 : ∀ x ∈ F, RdP w x.1 x.2 ∧ x.2.length <= 1000000) (he : E.map El.row = F.map El.row) :
  Calls Try.prog 18 #[v1, v2] w fun e w' => e = .returned (.bool true) ∧ Below w.heap.size w w' := by
 obtain ⟨a1, c1, hv1⟩ : ∃ ao cap, v1 = .slice ao (E.map Prod.fst).length cap := by obtain ⟨ao, cap, h, _⟩ := h1; exact ⟨ao, cap, h⟩
 obtain ⟨a2, c2, hv2⟩ : ∃ ao cap, v2 = .slice ao (F.map Prod.fst).length cap := by obtain ⟨ao, cap, h, _⟩ := h2; exact ⟨ao, cap, h⟩
 have hlen : F.length = E.length := by have := congrArg List.length he; rw [Qa, Qa] at this; exact this.symm
 obtain ⟨n, hN⟩ : ∃ n, n = E.length := ⟨_, rfl⟩
 rw [Qa, <- hN] at hv1
 rw [Qa, hlen, <- hN] at hv2
 subst hv1
 subst hv2
 rw [<- hN] at hl
 have HN := hid hN
 have HM := hid (show F.length = n by rw [hlen, hN])
 have H1 := hid h1
 have H2 := hid h2
 have R1 := hid r1
 have R2 := hid r2
 have HE := hid he
 clear hN hlen h1 h2 r1 r2 he
 go_enter Try.func18, Try.ntmps18
 go_wp2_with fail
 go_loopw [5] (fun i wr => ∃ k : Nat, k <= n ∧ i = .int .i64 (k : Int) ∧ Below w.heap.size w wr) (fun i _ => n - (intOf i).toNat)
 case atStart => exact ⟨0, Nat.zero_le _, rfl, Qc _ _⟩
 case round =>
  obtain ⟨k, hk, rfl, hbel⟩ := hrel
  have HB := hid hbel
  clear hbel
  by_cases hlt : k < n
  ·obtain ⟨x, hx⟩ : ∃ x, E[k]? = some x := ⟨_, Qd (by rw [<- HN.out]; exact hlt)⟩
   obtain ⟨y, hy⟩ : ∃ y, F[k]? = some y := ⟨_, Qd (by rw [HM.out]; exact hlt)⟩
   have hxy : x.row = y.row := by
    have h := congrArg (fun l => l[k]?) HE.out
    simp only [Qb, hx, hy, Option.map_some, Option.some.injEq] at h
    exact h
   obtain ⟨hx1, hx2⟩ := R1.out x (Qe hx)
   obtain ⟨hy1, hy2⟩ := R2.out y (Qe hy)
   obtain ⟨b1, o1, rfl, p1⟩ := (zA4 (H1.out.kept HB.out)).2 (by omega)
   obtain ⟨b2, o2, rfl, p2⟩ := (zA4 (H2.out.kept HB.out)).2 (by omega)
   have k1 : wr.cell? ⟨b1, o1 + k, none⟩ = some x.1 := p1 k x.1 hlt (by rw [Qb, hx]; rfl)
   have k2 : wr.cell? ⟨b2, o2 + k, none⟩ = some y.1 := p2 k y.1 hlt (by rw [Qb, hy]; rfl)
   obtain ⟨xa, xc, hxs⟩ := zAl hx1.1
   obtain ⟨ya, yc, hys⟩ := zAl hy1.1
   have HC := hid (show ∀ w1, Below wr.heap.size wr w1 -> Calls Try.prog 25 #[x.1, y.1] w1 fun e w' => e = .returned (.bool true) ∧ Below w1.heap.size w1 w' from fun w1 h => by
    have hb := zAa HB.out h
    have hs : sameR x.row y.row = true := by rw [hxy]; exact (zFr _ _).2 rfl
    rw [<- hs]
    exact zEo x.1 y.1 x.row y.row w1 ⟨x.2, rfl, hx1.kept hb⟩ ⟨y.2, rfl, hy1.kept hb⟩ (by unfold El.row; rw [Qa]; exact hx2) (by unfold El.row; rw [Qa]; exact hy2))
   rw [hxs] at k1 HC
   rw [hys] at k2 HC
   rw [Qa] at k1 HC
   rw [Qa] at k2 HC
   obtain ⟨xn, hxn⟩ : ∃ xn, xn = x.2.length := ⟨_, rfl⟩
   obtain ⟨yn, hyn⟩ : ∃ yn, yn = y.2.length := ⟨_, rfl⟩
   rw [<- hxn, <- hyn] at HC
   rw [<- hxn] at k1
   rw [<- hyn] at k2
   have hlti : (k : Int) < (n : Int) := by omega
   have hq0 : (0 : Int) <= (k : Int) := by omega
   have hq1 : IntKind.i64.wrap ((k : Int) + 1) = (k : Int) + 1 := IntWalk.i64_in _ (by omega)
   clear hx hy hxy hx1 hx2 hy1 hy2 p1 p2 hxs hys hxn hyn
   go_wp2_with fail
   go_region_with (go_at_call 25; refine (HC.out _ (below_draws (Qc _ _) _)).mono ?_; rintro e w2 ⟨rfl, hb⟩)
   all_goals
    have HB2 := hid (zAa (below_draws HB.out _) hb)
    clear hb
    go_wp2_with fail
    go_roundw
    case rel => exact ⟨k + 1, by omega, by go_num, HB2.out⟩
    case measure => simp [intOf]; omega
  ·have hlti : ¬ (k : Int) < (n : Int) := by omega
   go_wp2_with fail
   go_ret
   exact ⟨rfl, HB.out⟩
end Go.Proofs.Ytnfjdoeemnhkbaa
