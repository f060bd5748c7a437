import Derived.Test.YtmpgnjhgegbdkaaGreatSgaw
import Derived.Test.YtmpgnjhgegbdkaaGreatSgo
import Derived.Test.YtmpgnjhgegbdkaaGreatSgn
set_option linter.unusedVariables false
set_option linter.unusedSimpArgs false
set_option maxRecDepth 100000
set_option maxHeartbeats 8000000
namespace Go.Proofs.YtmpgnjhgegbdkaaGreat
open Go.RowKit
open _root_.List renaming mem_map_of_mem -> Qa, length_map -> Qb, map_cons -> Qc, flatten_cons -> Qd, getElem?_of_mem -> Qe, length_append -> Qf, append_assoc -> Qg, mem_cons_self -> Qh, mem_cons_of_mem -> Qi, getElem?_eq_some_iff -> Qj, length_take -> Qk, getElem?_eq_getElem -> Ql, mem_map -> Qn
open _root_.Bool renaming and_true -> Qm
theorem zOl : ∀ (a b : List (List Nat)) (x : List Nat), a.length = b.length -> (∀ x ∈ a, x.length <= 42000) -> (∀ x ∈ b, x.length <= 42000) -> (a.map bytesC).flatten = (b.map bytesC).flatten ++ x -> x = []
 | [], [], x, _, _, _, h => by simpa using h.symm
 | [], _ :: _, _, h, _, _, _ => by cases h
 | _ :: _, [], _, h, _, _, _ => by cases h
 | y :: a, z :: b, x, h, ha, hb, he => by
  rw [Qc, Qd, Qc, Qd, Qg] at he
  have h1 := zEn y (a.map bytesC).flatten 42000 (ha y Qh) (by decide)
  have h2 := zEn z ((b.map bytesC).flatten ++ x) 42000 (hb z Qh) (by decide)
  rw [he, h2] at h1
  simp only [Option.some.injEq, Prod.mk.injEq] at h1
  exact zOl a b x (by simpa using h) (fun z hz => ha z (Qi _ hz)) (fun z hz => hb z (Qi _ hz)) h1.2.symm
theorem zOm {cols : List Co} {R Q : List (List Vc)} (hR : RowsC cols R) (hQ : RowsC cols Q) (x : List Nat) (h : segT cols R = segT cols Q ++ x) : x = [] := by
 have h1 : numR (segT cols R) false = (R.length, ((toldT cols R).map bytesC).flatten, false) := zCf _ _ _ (by have := hR.le; omega)
 have h2 : numR (segT cols Q ++ x) false = (Q.length, ((toldT cols Q).map bytesC).flatten ++ x, false) := by
  unfold segT
  rw [Qg]
  exact zCf _ _ _ (by have := hQ.le; omega)
 rw [h, h2] at h1
 simp only [Prod.mk.injEq, and_true] at h1
 exact zOl _ _ x (by rw [zBy, zBy]) (fun x hx => (zDh hR x hx).2) (fun x hx => (zDh hQ x hx).2) h1.2.symm
def valB (k : Int) (v : Vc) : Bool := v.k == k && (v.k == 1 || v.k == 2) && if v.u || v.k == 1 then v.b.length == 0 && (!v.u || v.n == 0) else v.n == 0 && decide (v.b.length <= 64)
theorem zTj (c : Co) (v : Vc) : fitsT c v = (valB c.k v && !(v.u && !c.u)) := by
 unfold fitsT valB
 obtain ⟨u, k, n, b⟩ := v
 obtain ⟨cn, ck, cu⟩ := c
 cases u <;> cases cu <;> by_cases h : k = 1 <;> simp [h, Bool.and_comm, Bool.and_assoc, Bool.and_left_comm]
theorem zRf (k : Int) (v : Vc) (a : Option Addr) (c : Nat) (w : World) :
  Calls Tryz.prog 56 #[.int .i64 k, .agg #[.bool v.u, .int .i64 v.k, .int .i64 v.n, .slice a v.b.length c]] w fun e w' => e = .returned (.bool (valB k v)) ∧ Below w.heap.size w w' := by
 obtain ⟨r, hr⟩ : ∃ r, r = valB k v := ⟨_, rfl⟩
 rw [<- hr]
 obtain ⟨u, vk, n, b⟩ := v
 unfold valB at hr
 simp only at hr ⊢
 obtain ⟨bl, hbl⟩ : ∃ bl, bl = b.length := ⟨_, rfl⟩
 rw [<- hbl] at hr ⊢
 clear hbl
 by_cases h1 : vk = k
 ·subst h1
  by_cases h2 : vk = 1
  ·subst h2
   by_cases h4 : bl = 0
   ·subst h4
    cases u with
    | false =>
     obtain rfl : r = true := by rw [hr]; simp
     clear hr
     go_enter Tryz.func56, Tryz.ntmps56
     go_wp2_with fail
     go_ret
     exact ⟨rfl, zAc _ _⟩
    | true =>
     by_cases h5 : n = 0
     ·subst h5
      obtain rfl : r = true := by rw [hr]; simp
      clear hr
      go_enter Tryz.func56, Tryz.ntmps56
      go_wp2_with fail
      go_ret
      exact ⟨rfl, zAc _ _⟩
     ·have h5b : (n == 0) = false := by rw [beq_eq_false_iff_ne]; exact h5
      obtain rfl : r = false := by rw [hr]; simp [h5b]
      clear hr
      go_enter Tryz.func56, Tryz.ntmps56
      go_wp2_with fail
      go_ret
      exact ⟨rfl, zAc _ _⟩
   ·have h4b : (bl == 0) = false := by rw [beq_eq_false_iff_ne]; exact h4
    have h4i : ((bl : Int) == 0) = false := by rw [beq_eq_false_iff_ne]; omega
    obtain rfl : r = false := by rw [hr]; simp [h4b]
    clear hr
    go_enter Tryz.func56, Tryz.ntmps56
    cases u <;> (go_wp2_with fail; go_ret; exact ⟨rfl, zAc _ _⟩)
  ·have h2b : (vk == 1) = false := by rw [beq_eq_false_iff_ne]; exact h2
   by_cases h3 : vk = 2
   ·subst h3
    cases u with
    | true =>
     by_cases h4 : bl = 0
     ·subst h4
      by_cases h5 : n = 0
      ·subst h5
       obtain rfl : r = true := by rw [hr]; simp
       clear hr
       go_enter Tryz.func56, Tryz.ntmps56
       go_wp2_with fail
       go_ret
       exact ⟨rfl, zAc _ _⟩
      ·have h5b : (n == 0) = false := by rw [beq_eq_false_iff_ne]; exact h5
       obtain rfl : r = false := by rw [hr]; simp [h5b]
       clear hr
       go_enter Tryz.func56, Tryz.ntmps56
       go_wp2_with fail
       go_ret
       exact ⟨rfl, zAc _ _⟩
     ·have h4b : (bl == 0) = false := by rw [beq_eq_false_iff_ne]; exact h4
      have h4i : ((bl : Int) == 0) = false := by rw [beq_eq_false_iff_ne]; omega
      obtain rfl : r = false := by rw [hr]; simp [h4b]
      clear hr
      go_enter Tryz.func56, Tryz.ntmps56
      go_wp2_with fail
      go_ret
      exact ⟨rfl, zAc _ _⟩
    | false =>
     by_cases h5 : n = 0
     ·subst h5
      by_cases h4 : bl <= 64
      ·have h4i : (bl : Int) <= 64 := by omega
       have h4d : decide ((bl : Int) <= 64) = true := by rw [decide_eq_true_eq]; exact h4i
       obtain rfl : r = true := by rw [hr]; simp [h4]
       clear hr
       go_enter Tryz.func56, Tryz.ntmps56
       go_wp2_with fail
       go_ret
       exact ⟨rfl, zAc _ _⟩
      ·have h4i : ¬ (bl : Int) <= 64 := by omega
       have h4d : decide ((bl : Int) <= 64) = false := by rw [decide_eq_false_iff_not]; exact h4i
       obtain rfl : r = false := by rw [hr]; simp [h4]
       clear hr
       go_enter Tryz.func56, Tryz.ntmps56
       go_wp2_with fail
       go_ret
       exact ⟨rfl, zAc _ _⟩
     ·have h5b : (n == 0) = false := by rw [beq_eq_false_iff_ne]; exact h5
      obtain rfl : r = false := by rw [hr]; simp [h5b]
      clear hr
      go_enter Tryz.func56, Tryz.ntmps56
      go_wp2_with fail
      go_ret
      exact ⟨rfl, zAc _ _⟩
   ·have h3b : (vk == 2) = false := by rw [beq_eq_false_iff_ne]; exact h3
    have h2n : (vk != 1) = true := by unfold bne; rw [h2b]; rfl
    have h3n : (vk != 2) = true := by unfold bne; rw [h3b]; rfl
    obtain rfl : r = false := by rw [hr]; simp [h2b, h3b]
    clear hr
    go_enter Tryz.func56, Tryz.ntmps56
    go_wp2_with fail
    go_ret
    exact ⟨rfl, zAc _ _⟩
 ·have h1b : (vk == k) = false := by rw [beq_eq_false_iff_ne]; exact h1
  obtain rfl : r = false := by rw [hr]; simp [h1b]
  clear hr
  go_enter Tryz.func56, Tryz.ntmps56
  go_wp2_with fail
  go_ret
  exact ⟨rfl, zAc _ _⟩
theorem zXr9 {cols : List Co} {l : List Int} {r : List Vc} (h : r ∈ rows9 cols l) : ∃ (i : Nat) (n : Int), i < 40 ∧ r = (rowOf cols n).set 0 ⟨false, 1, (i : Int) * 3 + n % 2, []⟩ := by
 obtain ⟨i, hi⟩ := Qe h
 unfold rows9 at hi
 rw [List.getElem?_mapIdx] at hi
 cases hq : (l.take 40)[i]? with
 | none => rw [hq] at hi; cases hi
 | some n =>
  rw [hq] at hi
  have := (Qj.1 hq).1
  rw [Qk] at this
  exact ⟨i, n, by omega, (Option.some.inj hi).symm⟩
theorem zOn (cols : List Co) (l : List Int) : (rows9 cols l).length <= 40 := by
 unfold rows9
 rw [List.length_mapIdx, Qk]
 omega
theorem zTk {cols : List Co} (h : ColsOk cols) (n x : Int) : fitsR cols ((rowOf cols n).set 0 ⟨false, 1, x, []⟩) = true := by
 obtain ⟨c0, hc0⟩ : ∃ c0, cols[0]? = some c0 := ⟨_, Ql h.ne⟩
 have hk := (h.hd _ hc0).1
 rw [zMi cols _ 0 c0 _ (zPc h n) hc0]
 unfold fitsT
 simp [hk]
theorem zPz {cols : List Co} (h : ColsOk cols) (l : List Int) : rowsB cols (rows9 cols l) = decide (0 < (rows9 cols l).length) := by
 have h1 := zOn cols l
 have h2 : (rows9 cols l).all (fitsR cols) = true := by
  rw [List.all_eq_true]
  intro r hr
  obtain ⟨i, n, _, rfl⟩ := zXr9 hr
  exact zTk h _ _
 unfold rowsB
 rw [h2, decide_eq_true (show (rows9 cols l).length <= 64 by omega), Qm, Qm]
theorem zVc {cols : List Co} {l : List Int} {r : List Vc} (h : r ∈ rows9 cols l) : r.length = cols.length := by
 obtain ⟨i, n, _, rfl⟩ := zXr9 h
 rw [List.length_set, zE5]
theorem zRg {cols : List Co} {l : List Int} {r : List Vc} (h : r ∈ rows9 cols l) : ∀ v ∈ r, I64 v.n ∧ v.b.length <= 8 := fun v hv => by
 obtain ⟨i, n, hi, rfl⟩ := zXr9 h
 rcases List.mem_or_eq_of_mem_set hv with h | rfl
 ·exact zPh n v h
 ·exact ⟨by unfold I64; simp only; omega, Nat.zero_le _⟩
theorem zJu {w w' : World} {B sz n : Nat} {E : TypeId} {v : Value} {xs : List Value} (h : w.ownsRow B E sz v n xs) (hb : Below w.heap.size w w') : w'.ownsRow B E sz v n xs :=
 zAm (X := fun _ => False) h ⟨hb.os, hb.tape, hb.output, hb.size, fun i hi _ => hb.block i hi⟩ (fun _ _ h => h)
theorem OwnB.keptB {w w' : World} {B : Nat} {v : Value} {bs : List Nat} (h : OwnB B w v bs) (hb : Below w.heap.size w w') : OwnB B w' v bs := zJu h hb
theorem OwnW.keptB {w w' : World} {B : Nat} {v : Value} {l : List (Vc × Value)} (h : OwnW B w v l) (hb : Below w.heap.size w w') : OwnW B w' v l :=
 ⟨zJu h.row hb, fun t ht => ⟨(h.els t ht).1.keptB hb, (h.els t ht).2⟩, h.apart⟩
theorem OwnW.far {w : World} {B g n c : Nat} {l : List (Vc × Value)} (h : OwnW B w (.slice (some ⟨g, 0, none⟩) n c) l) {t : Vc × Value} (ht : t ∈ l) : FarV g t := by
 intro hne a m k hv he
 obtain ⟨i, hi⟩ := Qe ht
 obtain ⟨G, cap, hf⟩ := Joins.ownsRow_form (h.els t ht).1 (List.length_pos_iff.2 hne)
 rw [hv] at hf
 simp only [Value.slice.injEq, Option.some.injEq] at hf
 have h2 := h.apart 0 (i + 1) _ t.2 g rfl (by simp [hi]) rfl (by rw [hv, hf.1]; simp only [Value.ownBlock]; rw [hf.1] at he; simpa using he)
 omega
theorem zKi {cols : List Co} {R : List (List Vc)} (hne : 0 < cols.length) : 2 <= (segT cols R).length := by
 unfold segT
 have h1 := (zFx R.length).2
 have h2 : 0 < (((toldT cols R).map bytesC).flatten).length := by
  have hl := zBy cols R
  match hq : toldT cols R with
  | [] => rw [hq] at hl; simp at hl; omega
  | x :: r =>
   have := (zFx x.length).2
   rw [Qc, Qd, Qf]
   unfold bytesC
   rw [Qf]
   omega
 rw [Qf]
 omega
theorem zWf (a1 : Int) (la : List Int) (L : List (List (Vc × Value))) (hlm : L.map (fun x => x.map Prod.fst) = rows9 (colsN a1) la) (sv rv : Value) (w : World) (hs : RdC w sv (colsN a1)) (hr : RdRs w rv L) (h8 : ∀ l ∈ L, ∀ t ∈ l, ∀ x ∈ t.1.b, x < 256) :
  Calls Tryz.prog 15 #[.agg #[sv], rv] w fun e w' => ((∃ g, e = .returned (.tuple #[.pointer (some ⟨g, 0, none⟩), .bool true]) ∧ RowsC (colsN a1) (rows9 (colsN a1) la) ∧ SegAt w.heap.size w' g (colsN a1) (rows9 (colsN a1) la)) ∨ ((rows9 (colsN a1) la).length = 0 ∧ e = .returned (.tuple #[.pointer none, .bool false]))) ∧ Below w.heap.size w w' := by
 have hok := zF7 a1
 have hmem : ∀ l ∈ L, l.map Prod.fst ∈ rows9 (colsN a1) la := fun l hl => by rw [<- hlm]; exact Qa (f := fun x : List (Vc × Value) => x.map Prod.fst) hl
 have hsml : ∀ l ∈ L, ∀ t ∈ l, I64 t.1.n ∧ t.1.b.length <= 8 := fun l hl t ht => zRg (hmem l hl) t.1 (Qa ht)
 have hlen : L.length <= 40 := by have h := zOn (colsN a1) la; rw [<- hlm, Qb] at h; exact h
 refine (zF9 (colsN a1) (zJh a1) L (by omega) (fun l hl => by
  have := zVc (hmem l hl)
  rw [Qb] at this
  have := hok.le
  omega) (fun l hl t ht => (hsml l hl t ht).1) (fun l hl t ht => by have := (hsml l hl t ht).2; omega) sv rv w hs hr).mono ?_
 rw [hlm, zPz hok]
 rintro e w' ⟨h | h, hb⟩
 ·obtain ⟨h0, g, rfl, hseg⟩ := h
  refine ⟨.inl ⟨g, rfl, zH0 (by rw [zPz hok]; exact h0) (fun r hr v hv => ?_), hseg⟩, hb⟩
  rw [<- hlm] at hr
  obtain ⟨l, hl, rfl⟩ := Qn.1 hr
  obtain ⟨t, ht, rfl⟩ := Qn.1 hv
  exact ⟨(hsml l hl t ht).1, h8 l hl t ht⟩
 ·refine ⟨.inr ⟨?_, h.2⟩, hb⟩
  have := h.1
  rw [decide_eq_false_iff_not] at this
  omega
theorem zWg (a1 : Int) (R : List (List Vc)) (hR : RowsC (colsN a1) R) (L : List (List (Vc × Value))) (hlm : L.map (fun x => x.map Prod.fst) = R) (sv rv : Value) (w : World) (hs : RdC w sv (colsN a1)) (hr : RdRs w rv L) :
  Calls Tryz.prog 15 #[.agg #[sv], rv] w fun e w' => (∃ g, e = .returned (.tuple #[.pointer (some ⟨g, 0, none⟩), .bool true]) ∧ SegAt w.heap.size w' g (colsN a1) R) ∧ Below w.heap.size w w' := by
 have hok := zF7 a1
 have hv : ∀ l ∈ L, ∀ t ∈ l, I64 t.1.n ∧ t.1.b.length <= 64 := fun l hl t ht => by
  have hm : l.map Prod.fst ∈ R := by rw [<- hlm]; exact Qa (f := fun x : List (Vc × Value) => x.map Prod.fst) hl
  obtain ⟨i, hi⟩ := Qe (Qa (f := Prod.fst) ht)
  have hil : i < (colsN a1).length := by rw [<- hR.len _ hm]; exact (Qj.1 hi).1
  have h := (hR.at_ _ hm i _ _ (Ql hil) hi).1
  exact ⟨h.i64, h.fit.2⟩
 refine (zF9 (colsN a1) (zJh a1) L (by have := hR.le; rw [<- hlm, Qb] at this; omega) (fun l hl => by
  have hm : l.map Prod.fst ∈ R := by rw [<- hlm]; exact Qa (f := fun x : List (Vc × Value) => x.map Prod.fst) hl
  have := hR.len _ hm
  rw [Qb] at this
  have := hok.le
  omega) (fun l hl t ht => (hv l hl t ht).1) (fun l hl t ht => by have := (hv l hl t ht).2; omega) sv rv w hs hr).mono ?_
 rw [hlm, zG2 hR]
 rintro e w' ⟨h | h, hb⟩
 ·exact ⟨h.2, hb⟩
 ·exact absurd h.1 (by decide)
end Go.Proofs.YtmpgnjhgegbdkaaGreat
