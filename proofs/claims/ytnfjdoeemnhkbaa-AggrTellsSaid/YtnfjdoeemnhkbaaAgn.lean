import Derived.Test.YtnfjdoeemnhkbaaAgl
import Derived.Test.YtnfjdoeemnhkbaaRow9
import Derived.Test.YtnfjdoeemnhkbaaRefk
set_option linter.unusedVariables false
set_option linter.unusedSimpArgs false
set_option maxRecDepth 100000
set_option maxHeartbeats 4000000
open Go.Lib (hid)
namespace Go.Proofs.Ytnfjdoeemnhkbaa
open Go.RowKit
open _root_.List renaming length_take -> Qa, length_map -> Qb, getElem?_of_mem -> Qc, mem_cons_of_mem -> Qd, mem_cons_self -> Qe, length_cons -> Qf, mem_map_of_mem -> Qg, flatten_cons -> Qh, length_append -> Qi
theorem zJe {a b : Vc} {kk : Int} (ha : NormV a) (hb : NormV b) (h1 : a.k = kk) (h2 : b.k = kk) (hk : kk = 1 ∨ kk = 2) : refC a b = cmpK (keyV a) (keyV b) := by
 rw [<- zBg ha hb (h1.trans h2.symm)]
 unfold refC cmpT
 rw [h1, h2]
 rcases hk with rfl | rfl <;> simp
theorem zE9 {cols : List Co} {l : List Int} {r : List Vc} (h : r ∈ rows9 cols l) : ∃ (i : Nat) (n : Int), i < 40 ∧ r = (rowOf cols n).set 0 ⟨false, 1, (i : Int) * 3 + n % 2, []⟩ := by
 obtain ⟨i, hi⟩ := Qc h
 unfold rows9 at hi
 rw [List.getElem?_mapIdx] at hi
 cases hq : (l.take 40)[i]? with
 | none => rw [hq] at hi; cases hi
 | some n =>
  rw [hq] at hi
  have := (List.getElem?_eq_some_iff.1 hq).1
  rw [Qa] at this
  exact ⟨i, n, by omega, (Option.some.inj hi).symm⟩
theorem zMr (cols : List Co) (l : List Int) : (rows9 cols l).length <= 40 := by
 unfold rows9
 rw [List.length_mapIdx, Qa]
 omega
theorem zIc {cols : List Co} {l : List Int} {r : List Vc} (h : r ∈ rows9 cols l) : r.length = cols.length := by
 obtain ⟨i, n, _, rfl⟩ := zE9 h
 rw [List.length_set, zEi]
theorem zLi (n : Int) : I64 (numOf n) := by
 unfold numOf
 split
 ·unfold I64 wrap64
  omega
 ·split
  ·unfold I64; omega
  ·split <;> (unfold I64; omega)
theorem zFw (c : Co) (n : Int) : I64 (valOf c n).n ∧ (valOf c n).b.length <= 8 := by
 unfold valOf
 split
 ·exact ⟨by unfold I64; simp, by simp⟩
 ·split
  ·exact ⟨zLi n, by simp⟩
  ·refine ⟨by unfold I64; simp, ?_⟩
   simp only [Qa, List.length_drop]
   have : abcs.length = 8 := rfl
   omega
theorem zFx {cols : List Co} (n : Int) : ∀ v ∈ rowOf cols n, I64 v.n ∧ v.b.length <= 8 := fun v hv => by
 obtain ⟨i, hi⟩ := Qc hv
 rw [zGx] at hi
 cases hc : cols[i]? with
 | none => rw [hc] at hi; cases hi
 | some c =>
  rw [hc] at hi
  simp only [Option.map_some, Option.some.injEq] at hi
  rw [<- hi]
  unfold eltOf
  split
  ·exact ⟨by unfold I64; simp only; omega, by simp⟩
  ·exact zFw _ _
theorem zGk {cols : List Co} {l : List Int} {r : List Vc} (h : r ∈ rows9 cols l) : ∀ v ∈ r, I64 v.n ∧ v.b.length <= 8 := fun v hv => by
 obtain ⟨i, n, hi, rfl⟩ := zE9 h
 rcases List.mem_or_eq_of_mem_set hv with h | rfl
 ·exact zFx n v h
 ·exact ⟨by unfold I64; simp only; omega, Nat.zero_le _⟩
theorem zIe {cols : List Co} (hok : ColsOk cols) {l : List Int} {r : List Vc} (hr : r ∈ rows9 cols l) : 0 <= addT 0 r ∧ addT 0 r <= 200 := by
 obtain ⟨i, n, hi, rfl⟩ := zE9 hr
 have hlen : 0 < (rowOf cols n).length := by rw [zEi]; exact hok.ne
 unfold addT atT
 rw [if_neg (by omega : ¬ (0 : Int) < 0), List.getD_eq_getElem?_getD, show (0 : Int).toNat = 0 from rfl, List.getElem?_set_self hlen]
 simp only [Option.getD_some]
 rw [if_neg (by decide)]
 omega
theorem zKn {R : List (List Vc)} (h : ∀ r ∈ R, 0 <= addT 0 r ∧ addT 0 r <= 200) : 0 <= sumT R 0 ∧ sumT R 0 <= 200 * (R.length : Int) := by
 induction R with
 | nil => exact ⟨by simp [sumT], by simp [sumT]⟩
 | cons x l ih =>
  have h1 := ih fun r hr => h r (Qd _ hr)
  have h2 := h x Qe
  have h3 : sumT (x :: l) 0 = addT 0 x + sumT l 0 := by unfold sumT; rw [List.map_cons, List.sum_cons]
  rw [h3, Qf]
  omega
structure Rows16 (cols : List Co) (l : List Int) (w : World) (v : Value) (E : List El) : Prop where
 row : E.map El.row = rows9 cols l
 rd : Rd w v (E.map Prod.fst)
 el : ∀ x ∈ E, RdP w x.1 x.2
theorem Rows16.kept {cols : List Co} {l : List Int} {w w' : World} {v : Value} {E : List El} (h : Rows16 cols l w v E) (hb : Below w.heap.size w w') : Rows16 cols l w' v E := ⟨h.row, h.rd.kept hb, fun x hx => (h.el x hx).kept hb⟩
theorem Rows16.mem {cols : List Co} {l : List Int} {w : World} {v : Value} {E : List El} (h : Rows16 cols l w v E) {x : El} (hx : x ∈ E) : x.row ∈ rows9 cols l := by rw [<- h.row]; exact Qg hx
theorem Rows16.le {cols : List Co} {l : List Int} {w : World} {v : Value} {E : List El} (h : Rows16 cols l w v E) : E.length <= 40 := by
 have := zMr cols l
 rw [<- h.row, Qb] at this
 exact this
theorem Rows16.rowsIn {cols : List Co} (hok : ColsOk cols) {l : List Int} {w : World} {v : Value} {E : List El} (h : Rows16 cols l w v E) : RowsIn w E := fun x hx => by
 have hm := h.mem hx
 have hl := zIc hm
 unfold El.row at hl
 rw [Qb] at hl
 refine ⟨h.el x hx, by have := hok.le; omega, fun t ht => ?_⟩
 have := zGk hm t.1 (by unfold El.row; exact Qg ht)
 exact ⟨this.1, by omega⟩
theorem Rows16.sum {cols : List Co} (hok : ColsOk cols) {l : List Int} {w : World} {v : Value} {E : List El} (h : Rows16 cols l w v E) {p : List El} (hp : ∀ x ∈ p, x ∈ E) : 0 <= sumT (p.map El.row) 0 ∧ sumT (p.map El.row) 0 <= 200 * (p.length : Int) := by
 have := zKn (R := p.map El.row) fun r hr => by
  obtain ⟨x, hx, rfl⟩ := List.mem_map.1 hr
  exact zIe hok (h.mem (hp x hx))
 rw [Qb] at this
 exact this
theorem tot1 (R : List (List Vc)) (c : Int) : totT R 1 c = some ⟨false, 1, (R.length : Int), []⟩ := by unfold totT; rw [if_pos rfl]
theorem zLj (E : List El) (v : Value) (w : World) (hv : Rd w v (E.map Prod.fst)) :
  Calls Try.prog 44 #[v, .int .i64 (-1)] w fun e w' => ∃ v', e = .returned v' ∧ ∃ Ps : List (Value × List El), PsRd w' v' Ps ∧ Ps.map Prod.snd = [E] ∧ Below w.heap.size w w' := by
 have HV := hid hv
 obtain ⟨ao, cap, hvs⟩ : ∃ ao cap, v = .slice ao (E.map Prod.fst).length cap := by obtain ⟨ao, cap, h, _⟩ := hv; exact ⟨ao, cap, h⟩
 obtain ⟨n, hN⟩ : ∃ n, n = (E.map Prod.fst).length := ⟨_, rfl⟩
 rw [<- hN] at hvs
 subst hvs
 clear hv hN
 go_enter Try.func44, Try.ntmps44
 go_upto_region 1 with (fail)
 obtain ⟨W, hW⟩ : ∃ W : World, W = w.alloc (.cells #[.int .i64 (-1)] 3) := ⟨_, rfl⟩
 obtain ⟨X, hX⟩ : ∃ X, X = w.heap.size := ⟨_, rfl⟩
 have HX := hid (show W.heap[X]? = some (.cells #[.int .i64 (-1)] 3 (0, 0)) by rw [hW, hX]; exact heap_alloc_new w _)
 have HBW := hid (show Below w.heap.size w W by rw [hW]; exact zAi w _)
 have cX : W.cell? ⟨X, 0, none⟩ = some (.int .i64 (-1)) := by rw [cell_of_row W X 0 _ _ _ HX.out]; rfl
 rw [<- hW, <- hX]
 clear hW hX
 go_wp2_with fail
 go_ret
 have hb2 := zAe HBW.out (.cells #[.slice ao n cap] 27)
 exact ⟨_, rfl, [(_, E)], ⟨zL5 W #[.slice ao n cap] _ 1 [.slice ao n cap] rfl rfl (by decide), fun p hp => by rw [List.mem_singleton.1 hp]; exact HV.out.kept hb2⟩, rfl, hb2⟩
structure GrpF (w : World) (v : Value) (c : Int) (E : List El) (C S : List Int) (T : List El) : Prop where
 rd : Rd w v (T.map Prod.fst)
 el : ∀ x ∈ T, RdP w x.1 x.2
 pos : ∀ (i : Nat) (x : El), T[i]? = some x -> ∃ (k : Vc) (a b : Int) (s0 s1 s2 : Value), x.2 = [(k, s0), (⟨false, 1, a, []⟩, s1), (⟨false, 1, b, []⟩, s2)] ∧ C[i]? = some a ∧ S[i]? = some b ∧ 1 <= a ∧ a <= 40 ∧ 0 <= b ∧ b <= 8000
 rise : ∀ (i : Nat) (x y : El) (p q : Vc × Value), T[i]? = some x -> T[i + 1]? = some y -> x.2[0]? = some p -> y.2[0]? = some q -> refC p.1 q.1 < 0
 cnt : C.sum = E.length
 sum : S.sum = sumT (E.map El.row) 0
 lc : C.length = T.length
 ls : S.length = T.length
 le : T.length <= 40
theorem GrpF.kept {w w' : World} {v : Value} {c : Int} {E T : List El} {C S : List Int} (h : GrpF w v c E C S T) (hb : Below w.heap.size w w') : GrpF w' v c E C S T :=
 { h with rd := h.rd.kept hb, el := fun x hx => (h.el x hx).kept hb }
theorem zOz (Ps : List (List El)) (h : ∀ p ∈ Ps, p ≠ []) : Ps.length <= Ps.flatten.length := by
 induction Ps with
 | nil => exact Nat.le_refl _
 | cons p l ih =>
  have h1 := ih fun q hq => h q (Qd _ hq)
  have h2 : 0 < p.length := List.length_pos_iff.2 (h p Qe)
  rw [Qh, Qi, Qf]
  omega
theorem zO0 {Ps : List (List El)} {p : List El} (h : p ∈ Ps) : p.length <= Ps.flatten.length := by
 induction Ps with
 | nil => cases h
 | cons q l ih =>
  rw [Qh, Qi]
  rcases List.mem_cons.1 h with rfl | h
  ·omega
  ·have := ih h; omega
end Go.Proofs.Ytnfjdoeemnhkbaa
