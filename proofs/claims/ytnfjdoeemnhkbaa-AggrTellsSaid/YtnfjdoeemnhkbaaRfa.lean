import Derived.Test.YtnfjdoeemnhkbaaAgn
import Derived.Test.YtnfjdoeemnhkbaaLsix
import Derived.Test.YtnfjdoeemnhkbaaRefk
set_option linter.unusedVariables false
set_option linter.unusedSimpArgs false
set_option maxRecDepth 100000
set_option maxHeartbeats 8000000
open Go.Lib (hid)
namespace Go.Proofs.Ytnfjdoeemnhkbaa
open Go.RowKit
open _root_.List renaming length_map -> Qa, mem_of_getElem? -> Qb, getElem?_map -> Qd, length -> Qe, getElem?_eq_getElem -> Qf, drop_of_length_le -> Qg
open Go.RowKit.Below renaming refl -> Qc
def Kind12 (ks : List Int) : Prop := ∀ k ∈ ks, k = 1 ∨ k = 2
theorem zNz {ks : List Int} {x y : List Vc} (hk : Kind12 ks) (h1 : KindsR ks [x, y]) {i : Nat} {a b : Vc} (ha : x[i]? = some a) (hb : y[i]? = some b) : refC a b = cmpT a b := by
 have hx := h1 x (by simp)
 have hy := h1 y (by simp)
 have ka : ks[i]? = some a.k := by rw [<- hx.1, Qd, ha]; rfl
 have kb : ks[i]? = some b.k := by rw [<- hy.1, Qd, hb]; rfl
 have hab : b.k = a.k := by rw [ka] at kb; exact (Option.some.inj kb).symm
 have na := hx.2 a (Qb ha)
 have nb := hy.2 b (Qb hb)
 rw [zJe na nb rfl hab (hk _ (Qb ka)), zBg na nb hab.symm]
theorem zJ8 (ks : List Int) (hk : Kind12 ks) (v1 v2 : Value) (l m : List (Vc × Value)) (w : World) (hx : RdP w v1 l) (hy : RdP w v2 m) (hr : KindsR ks [l.map Prod.fst, m.map Prod.fst]) (hl : l.length <= 1000000) :
  Calls Try.prog 53 #[v1, v2] w fun e w' => e = .returned (.int .i64 (cmpR (l.map Prod.fst) (m.map Prod.fst))) ∧ Below w.heap.size w w' := by
 obtain ⟨a1, c1, rfl⟩ := zBe hx
 obtain ⟨a2, c2, rfl⟩ := zBe hy
 have hn : m.length = l.length := by
  have h1 := congrArg Qe (hr (l.map Prod.fst) (by simp)).1
  have h2 := congrArg Qe (hr (m.map Prod.fst) (by simp)).1
  rw [Qa, Qa] at h1 h2
  omega
 obtain ⟨n, hN⟩ : ∃ n, n = l.length := ⟨_, rfl⟩
 rw [<- hN] at hn hx hl ⊢
 rw [hn] at hy ⊢
 have HX := hid hx
 have HY := hid hy
 have HN := hid hN
 have HM := hid hn
 have HR := hid fun (i : Nat) (a b : Vc) (ha : (l.map Prod.fst)[i]? = some a) (hb : (m.map Prod.fst)[i]? = some b) => zNz hk hr ha hb
 clear hx hy hN hn hr hk
 go_enter Try.func53, Try.ntmps53
 go_wp2_with fail
 go_loopw [5] (fun i wr => ∃ k : Nat, k <= n ∧ i = .int .i64 (k : Int) ∧ cmpR (l.map Prod.fst) (m.map Prod.fst) = cmpR ((l.map Prod.fst).drop k) ((m.map Prod.fst).drop k) ∧ Below w.heap.size w wr) (fun i _ => n - (intOf i).toNat)
 case atStart => exact ⟨0, Nat.zero_le _, rfl, rfl, Qc _ _⟩
 case round =>
  obtain ⟨k, hk, rfl, hs, hbel⟩ := hrel
  have HS := hid hs
  have HB := hid hbel
  clear hs hbel
  by_cases hlt : k < n
  ·obtain ⟨t, ht⟩ : ∃ t, l[k]? = some t := ⟨_, Qf (by rw [<- HN.out]; exact hlt)⟩
   obtain ⟨u, hu⟩ : ∃ u, m[k]? = some u := ⟨_, Qf (by rw [HM.out]; exact hlt)⟩
   obtain ⟨b1, o1, rfl, p0, p1, p2, p3, ok1⟩ := (HX.out.kept HB.out).at ht
   obtain ⟨b2, o2, rfl, q0, q1, q2, q3, ok2⟩ := (HY.out.kept HB.out).at hu
   have HE := hid (zH5 (zDv ht) (zDv hu))
   have HO1 := hid ok1
   have HO2 := hid ok2
   have hrc := HR.out _ _ _ (zDv ht) (zDv hu)
   have HC := fun w1 (h : Below wr.heap.size wr w1) => hid (zDk t u w1 (HO1.out.kept h) (HO2.out.kept h))
   rw [hrc] at HC
   unfold aggV at HC
   have hlti : (k : Int) < (n : Int) := by omega
   have hltd : decide ((k : Int) < (n : Int)) = true := by rw [decide_eq_true_eq]; exact hlti
   have hk0 : (0 : Int) <= (k : Int) := by omega
   have hk1 : IntKind.i64.wrap ((k : Int) + 1) = (k : Int) + 1 := IntWalk.i64_in _ (by omega)
   obtain ⟨c, hc⟩ : ∃ c, c = cmpT t.1 u.1 := ⟨_, rfl⟩
   rw [<- hc] at HC HE
   clear ht hu ok1 ok2 hrc hc
   by_cases hc0 : c = 0
   ·subst hc0
    have HF := hid (show cmpR (l.map Prod.fst) (m.map Prod.fst) = cmpR ((l.map Prod.fst).drop (k + 1)) ((m.map Prod.fst).drop (k + 1)) by rw [HS.out, HE.out, if_pos rfl])
    go_wp2_with fail
    go_region_with (go_at_call 12; refine ((HC _ (below_draws (Qc _ _) _)).out).mono ?_; rintro e w2 ⟨rfl, hb⟩)
    all_goals
     have HB2 := hid (zAa (below_draws HB.out _) hb)
     clear hb
     go_wp2_with fail
     go_roundw
     case rel => exact ⟨k + 1, by omega, by go_num, HF.out, HB2.out⟩
     case measure => simp [intOf]; omega
   ·have HF := hid (show cmpR (l.map Prod.fst) (m.map Prod.fst) = c by rw [HS.out, HE.out, if_neg hc0])
    have hc1 : decide (c ≠ 0) = true := by rw [decide_eq_true_eq]; exact hc0
    have hc2 : (c == 0) = false := by rw [beq_eq_false_iff_ne]; exact hc0
    go_wp2_with fail
    go_region_with (go_at_call 12; refine ((HC _ (below_draws (Qc _ _) _)).out).mono ?_; rintro e w2 ⟨rfl, hb⟩)
    all_goals
     have HB2 := hid (zAa (below_draws HB.out _) hb)
     clear hb
     go_wp2_with fail
     go_ret
     exact ⟨by rw [HF.out] <;> rfl, HB2.out⟩
  ·have HF := hid (show cmpR (l.map Prod.fst) (m.map Prod.fst) = 0 by
    have e : k = n := by omega
    rw [HS.out, e, Qg (by rw [Qa, <- HN.out]; omega), Qg (by rw [Qa, HM.out]; omega)]
    rfl)
   have hlti : ¬ (k : Int) < (n : Int) := by omega
   have hltd : decide ((k : Int) < (n : Int)) = false := by rw [decide_eq_false_iff_not]; exact hlti
   go_wp2_with fail
   go_ret
   exact ⟨by rw [HF.out] <;> rfl, HB.out⟩
end Go.Proofs.Ytnfjdoeemnhkbaa
