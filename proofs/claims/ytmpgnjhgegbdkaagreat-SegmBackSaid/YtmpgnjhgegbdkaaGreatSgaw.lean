import Derived.Test.YtmpgnjhgegbdkaaGreatSgl
import Derived.Test.YtmpgnjhgegbdkaaGreatLsix
import Derived.Test.YtmpgnjhgegbdkaaGreatLeaf
set_option linter.unusedVariables false
set_option linter.unusedSimpArgs false
set_option maxRecDepth 100000
set_option maxHeartbeats 8000000
open Go.Lib (hid)
namespace Go.Proofs.YtmpgnjhgegbdkaaGreat
open Go.RowKit
open _root_.List renaming mem_cons -> Qa, not_mem_nil -> Qb, getElem?_eq_getElem -> Qd, map_cons -> Qe, getElem?_map -> Qf, map_nil -> Qh, flatten_cons -> Qj, mem_cons_self -> Qk, mem_cons_of_mem -> Ql, ext_getElem -> Qm, getElem_mem -> Qn, getD_eq_getElem?_getD -> Qp, length -> Qs
open _root_.Array renaming getElem?_eq_some_iff -> Qc
open _root_.Nat renaming zero_add -> Qg, le_refl -> Qq
open Go.RowKit.Below renaming refl -> Qi
open _root_.Option renaming map_some -> Qo
open Go.World renaming block_lt_of_cell? -> Qr
open Go renaming cell_of_row -> Qt, heap_alloc_new -> Qu
theorem zOq : ∀ (a b : List (List Nat)), a.length = b.length -> (∀ x ∈ a, x.length <= 42000) -> (∀ x ∈ b, x.length <= 42000) -> (a.map bytesC).flatten = (b.map bytesC).flatten -> a = b
 | [], [], _, _, _, _ => rfl
 | [], _ :: _, h, _, _, _ => by cases h
 | _ :: _, [], h, _, _, _ => by cases h
 | x :: a, y :: b, h, ha, hb, he => by
  rw [Qe, Qj, Qe, Qj] at he
  have h1 := zH5 x (a.map bytesC).flatten 42000 (ha x Qk) (by decide)
  have h2 := zH5 y (b.map bytesC).flatten 42000 (hb y Qk) (by decide)
  rw [he, h2] at h1
  simp only [Option.some.injEq, Prod.mk.injEq] at h1
  rw [<- h1.1, zOq a b (by simpa using h) (fun z hz => ha z (Ql _ hz)) (fun z hz => hb z (Ql _ hz)) h1.2.symm]
theorem zU8 {cols : List Co} {R Q : List (List Vc)} (hR : RowsC cols R) (hQ : RowsC cols Q) (h : segT cols R = segT cols Q) : R = Q := by
 have h1 : numR (segT cols R) false = (R.length, ((toldT cols R).map bytesC).flatten, false) := zC4 _ _ _ (by have := hR.le; omega)
 have h2 : numR (segT cols Q) false = (Q.length, ((toldT cols Q).map bytesC).flatten, false) := zC4 _ _ _ (by have := hQ.le; omega)
 rw [h, h2] at h1
 simp only [Prod.mk.injEq, and_true] at h1
 have h3 := zOq _ _ (by rw [zDe, zDe]) (fun x hx => (zEr hR x hx).2) (fun x hx => (zEr hQ x hx).2) h1.2.symm
 refine Qm h1.1.symm fun j hj1 hj2 => ?_
 have hr := hR.len R[j] (Qn hj1)
 have hq := hQ.len Q[j] (Qn hj2)
 refine Qm (by omega) fun i hi1 hi2 => ?_
 have hc : cols[i]? = some cols[i] := Qd (by omega)
 have h4 := congrArg (fun l => l[i]?) h3
 rw [zDx, zDx, hc] at h4
 simp only [Qo, Option.some.injEq] at h4
 have hk := hR.ks _ (List.mem_of_getElem? hc)
 have h5 := zHy hk (hR.col hc) (by rw [zAz]; have := hR.le; omega)
 have h6 := zHy hk (hQ.col hc) (by rw [zAz]; have := hQ.le; omega)
 rw [zAz] at h5 h6
 rw [h4, <- h1.1, h6] at h5
 have h7 := congrArg (fun l => l[j]?) (Option.some.inj h5)
 simp only [colVs, Qf] at h7
 rw [Qd hj1, Qd hj2] at h7
 simp only [Qo, Option.some.injEq, Qp] at h7
 rw [Qd hi1, Qd hi2] at h7
 simpa using h7.symm
theorem zLe (cols : List Co) (hsc : SchOk cols) (rows : List (List Vc)) (hrc : RowsC cols rows) (sv bv : Value) (w : World) (hs : RdC w sv cols) (hr : Rd w bv ((segT cols rows).map u8v)) :
  Calls Tryz.prog 19 #[.agg #[sv], bv] w fun e w' => ∃ g, e = .returned (.tuple #[.pointer (some ⟨g, 0, none⟩), .bool true]) ∧ SegAt w.heap.size w' g cols rows ∧ Below w.heap.size w w' := by
 refine (zTc cols hsc _ sv bv w hs hr (zEs hrc) (by have := zUz hrc hsc.ok.le; omega)).mono ?_
 rintro e w' ⟨h | h, hb⟩
 ·obtain ⟨Q, g, hq, he, rfl, hseg⟩ := h
  rw [<- zU8 hrc hq he] at hseg
  exact ⟨g, rfl, hseg, hb⟩
 ·exact (h.1 rows hrc rfl).elim
theorem zFv (w : World) (o : Obj) (k : Nat) (h : w.heap.size = k) : (w.alloc o).heap[k]? = some o := by subst h; exact Qu w o
theorem zL1 {w : World} {b sz : Nat} {cs : Array Value} {T : TypeId} {fr : Nat × Nat} (h : w.heap[b]? = some (.cells cs T fr)) (ls : List (List Value)) (hc : cs.toList = ls.flatten) (hl : ∀ t ∈ ls, t.length = sz) (n : Nat) (hn : n = ls.length) : RdS w sz (.slice (some ⟨b, 0, none⟩) n n) ls := by
 subst hn
 refine ⟨some ⟨b, 0, none⟩, ls.length, rfl, ⟨(fun h => by cases h), Qq _⟩, fun k t hk => ⟨b, 0, rfl, fun j u hu => ?_⟩⟩
 have h1 := zFe ls sz hl k t j u hk hu
 rw [Qg, Qt w b _ _ _ _ h, <- h1, <- hc]
 simp
theorem zTh {w : World} {b : Nat} {cs : Array Value} {T : TypeId} {fr : Nat × Nat} (h : w.heap[b]? = some (.cells cs T fr)) (n : Nat) (hn : n = cs.size) : Rd w (.slice (some ⟨b, 0, none⟩) n n) cs.toList := by
 subst hn
 refine ⟨some ⟨b, 0, none⟩, cs.size, by simp, ⟨(fun h => by cases h), by simp⟩, fun _ => ⟨b, 0, rfl, fun i hi => ?_⟩⟩
 rw [Qg, Qt w b _ _ _ _ h, Qp]
 simp at hi ⊢
 rw [Array.getElem?_eq_getElem hi]
 rfl
def awC : List Co := [⟨⟨#[107, 101, 121]⟩, 1, false⟩, ⟨⟨#[97]⟩, 2, true⟩]
theorem zL2 : SchOk awC := by
 have h : awC = colsN 769 := by rfl
 rw [h]
 exact zLz 769
def awR : List (List Vc) := [[⟨false, 1, 3, []⟩, ⟨true, 2, 0, []⟩], [⟨false, 1, 5, []⟩, ⟨false, 2, 0, [120]⟩]]
def awP : Pt := .mk 2 0 5 ⟨false, 1, 3, []⟩ []
theorem zWo : rowsB awC awR = true := by rfl
theorem zLf : RowsC awC awR := zH0 zWo fun r hr v hv => by
 unfold awR at hr
 simp only [Qa, Qb, or_false] at hr
 rcases hr with rfl | rfl
 all_goals
  simp only [Qa, Qb, or_false] at hv
  rcases hv with rfl | rfl <;> exact ⟨⟨by decide, by decide⟩, by decide⟩
theorem zWp : mayT awP (zonesT awC awR) ((2 : Nat) : Int) = true := by rfl
theorem zV9 : (if mayT awP (zonesT awC awR) ((2 : Nat) : Int) = true then pickT awR awP 2 else []) = [1] := by rfl
theorem zU9 : ((zonesT awC awR)[1]?).map (·.n) = some 1 := by rfl
theorem zWq : segV awC awR 1 1 = some ⟨false, 2, 0, [120]⟩ := by rfl
theorem zWr : rowAt awR 0 = some [⟨false, 1, 3, []⟩, ⟨true, 2, 0, []⟩] := by rfl
theorem zPy : sameR [⟨false, 1, 3, []⟩, ⟨true, 2, 0, []⟩] [⟨false, 1, 3, []⟩, ⟨true, 2, 0, []⟩] = true := by rfl
theorem zPi (w : World) :
  Calls Tryz.prog 16 #[] w fun e w' => e = .returned (.bool true) ∧ Below w.heap.size w w' := by
 have kc := Joins.run_convert_bytes_const_at (P := Tryz.prog) (((w.alloc (.cells #[.string ⟨#[107, 101, 121]⟩, .int .i64 1, .bool false, .string ⟨#[97]⟩, .int .i64 2, .bool true] 46)).alloc (.cells #[.slice (some ⟨w.heap.size, 0, none⟩) 2 2] 24)).alloc (.cells #[.bool false, .int .i64 1, .int .i64 3, .slice none 0 0, .bool true, .int .i64 2, .int .i64 0, .slice none 0 0] 31)) 29 5 #[.int .u8 120] 1 1 (w.heap.size + 1 + 1 + 1) (by simp) Tryz.underlying29 Tryz.underlying5
 go_enter Tryz.func16, Tryz.ntmps16
 go_upto_region 3 with (fail)
 clear kc
 obtain ⟨W, hW⟩ : ∃ W : World, W = (((((w.alloc (.cells #[.string ⟨#[107, 101, 121]⟩, .int .i64 1, .bool false, .string ⟨#[97]⟩, .int .i64 2, .bool true] 46)).alloc (.cells #[.slice (some ⟨w.heap.size, 0, none⟩) 2 2] 24)).alloc (.cells #[.bool false, .int .i64 1, .int .i64 3, .slice none 0 0, .bool true, .int .i64 2, .int .i64 0, .slice none 0 0] 31)).alloc (.cells #[.int .u8 120] 5 (1, 2))).alloc (.cells #[.bool false, .int .i64 1, .int .i64 5, .slice none 0 0, .bool false, .int .i64 2, .int .i64 0, .slice (some ⟨w.heap.size + 1 + 1 + 1, 0, none⟩) 1 1] 31)).alloc (.cells #[.slice (some ⟨w.heap.size + 1 + 1, 0, none⟩) 2 2, .slice (some ⟨w.heap.size + 1 + 1 + 1 + 1, 0, none⟩) 2 2] 27) := ⟨_, rfl⟩
 rw [<- hW]
 have h0 : W.heap[w.heap.size]? = some (.cells #[.string ⟨#[107, 101, 121]⟩, .int .i64 1, .bool false, .string ⟨#[97]⟩, .int .i64 2, .bool true] 46 (0, 0)) := by rw [hW]; exact (heap_alloc_old _ _ (by simp; try omega)).trans ((heap_alloc_old _ _ (by simp; try omega)).trans ((heap_alloc_old _ _ (by simp; try omega)).trans ((heap_alloc_old _ _ (by simp; try omega)).trans ((heap_alloc_old _ _ (by simp; try omega)).trans (zFv w _ _ (by simp))))))
 have h1 : W.heap[w.heap.size + 1]? = some (.cells #[.slice (some ⟨w.heap.size, 0, none⟩) 2 2] 24 (0, 0)) := by rw [hW]; exact (heap_alloc_old _ _ (by simp; try omega)).trans ((heap_alloc_old _ _ (by simp; try omega)).trans ((heap_alloc_old _ _ (by simp; try omega)).trans ((heap_alloc_old _ _ (by simp; try omega)).trans (zFv (w.alloc (.cells #[.string ⟨#[107, 101, 121]⟩, .int .i64 1, .bool false, .string ⟨#[97]⟩, .int .i64 2, .bool true] 46)) _ _ (by simp)))))
 have h2 : W.heap[w.heap.size + 1 + 1]? = some (.cells #[.bool false, .int .i64 1, .int .i64 3, .slice none 0 0, .bool true, .int .i64 2, .int .i64 0, .slice none 0 0] 31 (0, 0)) := by rw [hW]; exact (heap_alloc_old _ _ (by simp; try omega)).trans ((heap_alloc_old _ _ (by simp; try omega)).trans ((heap_alloc_old _ _ (by simp; try omega)).trans (zFv ((w.alloc (.cells #[.string ⟨#[107, 101, 121]⟩, .int .i64 1, .bool false, .string ⟨#[97]⟩, .int .i64 2, .bool true] 46)).alloc (.cells #[.slice (some ⟨w.heap.size, 0, none⟩) 2 2] 24)) _ _ (by simp))))
 have h3 : W.heap[w.heap.size + 1 + 1 + 1]? = some (.cells #[.int .u8 120] 5 (1, 2)) := by rw [hW]; exact (heap_alloc_old _ _ (by simp; try omega)).trans ((heap_alloc_old _ _ (by simp; try omega)).trans (zFv (((w.alloc (.cells #[.string ⟨#[107, 101, 121]⟩, .int .i64 1, .bool false, .string ⟨#[97]⟩, .int .i64 2, .bool true] 46)).alloc (.cells #[.slice (some ⟨w.heap.size, 0, none⟩) 2 2] 24)).alloc (.cells #[.bool false, .int .i64 1, .int .i64 3, .slice none 0 0, .bool true, .int .i64 2, .int .i64 0, .slice none 0 0] 31)) _ _ (by simp)))
 have h4 : W.heap[w.heap.size + 1 + 1 + 1 + 1]? = some (.cells #[.bool false, .int .i64 1, .int .i64 5, .slice none 0 0, .bool false, .int .i64 2, .int .i64 0, .slice (some ⟨w.heap.size + 1 + 1 + 1, 0, none⟩) 1 1] 31 (0, 0)) := by rw [hW]; exact (heap_alloc_old _ _ (by simp; try omega)).trans (zFv ((((w.alloc (.cells #[.string ⟨#[107, 101, 121]⟩, .int .i64 1, .bool false, .string ⟨#[97]⟩, .int .i64 2, .bool true] 46)).alloc (.cells #[.slice (some ⟨w.heap.size, 0, none⟩) 2 2] 24)).alloc (.cells #[.bool false, .int .i64 1, .int .i64 3, .slice none 0 0, .bool true, .int .i64 2, .int .i64 0, .slice none 0 0] 31)).alloc (.cells #[.int .u8 120] 5 (1, 2))) _ _ (by simp))
 have h5 : W.heap[w.heap.size + 1 + 1 + 1 + 1 + 1]? = some (.cells #[.slice (some ⟨w.heap.size + 1 + 1, 0, none⟩) 2 2, .slice (some ⟨w.heap.size + 1 + 1 + 1 + 1, 0, none⟩) 2 2] 27 (0, 0)) := by rw [hW]; exact zFv (((((w.alloc (.cells #[.string ⟨#[107, 101, 121]⟩, .int .i64 1, .bool false, .string ⟨#[97]⟩, .int .i64 2, .bool true] 46)).alloc (.cells #[.slice (some ⟨w.heap.size, 0, none⟩) 2 2] 24)).alloc (.cells #[.bool false, .int .i64 1, .int .i64 3, .slice none 0 0, .bool true, .int .i64 2, .int .i64 0, .slice none 0 0] 31)).alloc (.cells #[.int .u8 120] 5 (1, 2))).alloc (.cells #[.bool false, .int .i64 1, .int .i64 5, .slice none 0 0, .bool false, .int .i64 2, .int .i64 0, .slice (some ⟨w.heap.size + 1 + 1 + 1, 0, none⟩) 1 1] 31)) _ _ (by simp)
 have HB0 := hid (show Below w.heap.size w W by rw [hW]; exact zAn (zAn (zAn (zAn (zAn (zAd w _) _) _) _) _) _)
 obtain ⟨b0, hb0⟩ : ∃ b0, b0 = w.heap.size := ⟨_, rfl⟩
 rw [<- hb0] at h0 h1 h2 h3 h4 h5 ⊢
 obtain ⟨b1, hb1⟩ : ∃ b1, b1 = b0 + 1 := ⟨_, rfl⟩
 rw [<- hb1] at h1 h2 h3 h4 h5 ⊢
 obtain ⟨b2, hb2⟩ : ∃ b2, b2 = b1 + 1 := ⟨_, rfl⟩
 rw [<- hb2] at h2 h3 h4 h5 ⊢
 obtain ⟨b3, hb3⟩ : ∃ b3, b3 = b2 + 1 := ⟨_, rfl⟩
 rw [<- hb3] at h3 h4 h5
 obtain ⟨b4, hb4⟩ : ∃ b4, b4 = b3 + 1 := ⟨_, rfl⟩
 rw [<- hb4] at h4 h5
 obtain ⟨b5, hb5⟩ : ∃ b5, b5 = b4 + 1 := ⟨_, rfl⟩
 rw [<- hb5] at h5
 try rw [<- hb3, <- hb4, <- hb5]
 have HSV := hid (show RdC W (.slice (some ⟨b0, 0, none⟩) 2 2) awC from zL1 h0 _ rfl (by intro t ht; simp only [awC, Qe, Qh, Qa, Qb, or_false] at ht; rcases ht with rfl | rfl <;> rfl) 2 rfl)
 have hv0 : RdP W (.slice (some ⟨b2, 0, none⟩) 2 2) [((⟨false, 1, 3, []⟩ : Vc), Value.slice none 0 0), (⟨true, 2, 0, []⟩, .slice none 0 0)] := ⟨zL1 h2 _ rfl (by intro t ht; simp only [Qe, Qh, Qa, Qb, or_false] at ht; rcases ht with rfl | rfl <;> rfl) 2 rfl, by
  intro t ht
  simp only [Qa, Qb, or_false] at ht
  rcases ht with rfl | rfl <;> exact ⟨Rd.nil _, fun x hx => by cases hx⟩⟩
 have hv1 : RdP W (.slice (some ⟨b4, 0, none⟩) 2 2) [((⟨false, 1, 5, []⟩ : Vc), Value.slice none 0 0), (⟨false, 2, 0, [120]⟩, .slice (some ⟨b3, 0, none⟩) 1 1)] := ⟨zL1 h4 _ rfl (by intro t ht; simp only [Qe, Qh, Qa, Qb, or_false] at ht; rcases ht with rfl | rfl <;> rfl) 2 rfl, by
  intro t ht
  simp only [Qa, Qb, or_false] at ht
  rcases ht with rfl | rfl
  ·exact ⟨Rd.nil _, fun x hx => by cases hx⟩
  ·exact ⟨zTh h3 1 rfl, by simp⟩⟩
 have HRV := hid (show RdRs W (.slice (some ⟨b5, 0, none⟩) 2 2) [[((⟨false, 1, 3, []⟩ : Vc), Value.slice none 0 0), (⟨true, 2, 0, []⟩, .slice none 0 0)], [(⟨false, 1, 5, []⟩, .slice none 0 0), (⟨false, 2, 0, [120]⟩, .slice (some ⟨b3, 0, none⟩) 1 1)]] from
  ⟨_, zTh h5 2 rfl, rfl, fun i s l hs hl => by
   match i, hs, hl with
   | 0, hs, hl => cases hs; cases hl; exact hv0
   | 1, hs, hl => cases hs; cases hl; exact hv1
   | i + 2, hs, hl => simp at hs⟩)
 have HV0 := hid hv0
 have HX1 := hid h1
 have HX5 := hid h5
 have cs1 : W.cell? ⟨b1, 0, none⟩ = some (.slice (some ⟨b0, 0, none⟩) 2 2) := by rw [Qt W b1 0 _ _ _ h1]; rfl
 have HBW := hid hb0
 clear hW h0 h1 h2 h3 h4 h5 hv0 hv1 hb0 hb1 hb2 hb3 hb4 hb5
 have HMK := hid (zH1 awC zL2 _ (by simp) (by intro l hl; simp only [Qa, Qb, or_false] at hl; rcases hl with rfl | rfl <;> simp) (by intro l hl t ht; simp only [Qa, Qb, or_false] at hl; rcases hl with rfl | rfl <;> (simp only [Qa, Qb, or_false] at ht; rcases ht with rfl | rfl <;> (unfold I64; simp))) (by intro l hl t ht; simp only [Qa, Qb, or_false] at hl; rcases hl with rfl | rfl <;> (simp only [Qa, Qb, or_false] at ht; rcases ht with rfl | rfl <;> simp)) _ _ W HSV.out HRV.out)
 go_wp2_with fail
 refine HMK.out.mono ?_
 rintro e w2 ⟨h | h, hb2⟩
 case inr => exact absurd (zWo.symm.trans h.1) (by decide)
 obtain ⟨_, g, rfl, hseg⟩ := h
 have HSEG := hid (show SegAt W.heap.size w2 g awC awR from hseg)
 have HB2 := hid hb2
 have HBW2 := hid (show Below w.heap.size w w2 from zAa HB0.out hb2)
 have HMK0 := hid (zH1 awC zL2 [] (by decide) (fun l hl => (by cases hl)) (fun l hl => (by cases hl)) (fun l hl => (by cases hl)) (.slice (some ⟨b0, 0, none⟩) 2 2) (.slice none 0 0) w2 (RdC.kept HSV.out hb2) ⟨[], Rd.nil _, rfl, fun i s l h => (by simp at h)⟩)
 have hx1 := (hb2.block b1 (Qc.1 HX1.out).1).trans HX1.out
 have cs2 : w2.cell? ⟨b1, 0, none⟩ = some (.slice (some ⟨b0, 0, none⟩) 2 2) := by rw [Qt w2 b1 0 _ _ _ hx1]; rfl
 clear hseg hb2 cs1 HMK hx1
 go_wp2_with fail
 refine HMK0.out.mono ?_
 rintro e w3 ⟨h | h, hb3⟩
 case inl => exact absurd h.1 (by decide)
 obtain ⟨_, rfl⟩ := h
 have HB3 := hid (zAa HB2.out hb3)
 have HBW3 := hid (show Below w.heap.size w w3 from zAa HBW2.out hb3)
 have HSEG3 := hid (HSEG.out.kept hb3)
 have hx1 := (HB3.out.block b1 (Qc.1 HX1.out).1).trans HX1.out
 have cs3 : w3.cell? ⟨b1, 0, none⟩ = some (.slice (some ⟨b0, 0, none⟩) 2 2) := by rw [Qt w3 b1 0 _ _ _ hx1]; rfl
 have HBY := hid fun w' (h : Below w3.heap.size w3 w') => zFn zLf (by decide) (by decide) w' (HSEG3.out.kept h)
 have HOP := hid fun w' (h : Below w3.heap.size w3 w') (v : Value) (hv : Rd w' v ((segT awC awR).map u8v)) => zLe awC zL2 awR zLf (.slice (some ⟨b0, 0, none⟩) 2 2) v w' (RdC.kept (RdC.kept HSV.out HB3.out) h) hv
 obtain ⟨sn, hsn⟩ : ∃ sn, sn = (segT awC awR).length := ⟨_, rfl⟩
 have HSN := hid hsn
 clear hb3 cs2 hx1 HMK0 hsn
 go_upto_region 7 with (fail)
 go_cut [7, 8] (fun v ok wx => ∃ h, v = .pointer (some ⟨h, 0, none⟩) ∧ ok = .bool true ∧ SegAt 0 wx h awC awR ∧ Below w3.heap.size w3 wx)
 case first =>
  go_region_law
   (first
    | (go_simp; go_at_call 17; refine (HBY.out _ ?_).mono ?_; (exact zAe _ _); rintro e w4 ⟨v4, rfl, ho4, hb4⟩; obtain ⟨a4, c4, rfl⟩ := ho4.shape; rw [<- HSN.out]; have HO4 := hid ho4; have HB4 := hid (show Below w3.heap.size w3 w4 from (zAe _ _).trans hb4); have cs4 : w4.cell? ⟨b1, 0, none⟩ = some (.slice (some ⟨b0, 0, none⟩) 2 2) := (HB4.out.cell (Qr _ _ cs3)).trans cs3; clear ho4 hb4)
    | (go_simp; go_at_call 19; refine (HOP.out _ ?_ _ ?_).mono ?_; (exact HB4.out); (have h := HO4.out.rd; rw [<- HSN.out] at h; exact h); rintro e w5 ⟨h, rfl, hs5, hb5⟩; have HS5 := hid hs5; have HB5 := hid (zAa HB4.out hb5); clear hs5 hb5))
  all_goals
   go_wp2_with fail
   go_meet
   exact ⟨h, rfl, rfl, HS5.out.above (Above.refl _ _) (Qq _) (Nat.zero_le _), HB5.out⟩
 case rest =>
  obtain ⟨h, rfl, rfl, hs5, hb5⟩ := hcut
  obtain ⟨w5, hw5⟩ : ∃ w5 : World, w5 = wc := ⟨_, rfl⟩
  rw [<- hw5] at hs5 hb5 ⊢
  clear hw5
  have HS5 := hid hs5
  have HB5 := hid (zAa HB3.out hb5)
  have HBW5 := hid (show Below w.heap.size w w5 from zAa HBW3.out hb5)
  have HC5 := hid hb5
  have HVA := hid (zH4 zLf (by decide) (by decide) 1 1 w5 hs5)
  rw [zWq] at HVA
  clear hs5 hb5 cs3
  go_wp2_with fail
  refine HVA.out.mono ?_
  rintro e w6 ⟨hret, hb6⟩
  obtain ⟨xa, xc, rfl, ho6⟩ := hret.shape
  simp only [List.length_cons, List.length_nil, Qg] at ho6
  have HO6 := hid ho6
  have HB6 := hid (zAa HB5.out hb6)
  have HBW6 := hid (show Below w.heap.size w w6 from zAa HBW5.out hb6)
  have HC6 := hid (zAa HC5.out hb6)
  have HS6 := hid (HS5.out.kept hb6)
  clear hret ho6 hb6
  go_upto_region 11 with (fail)
  obtain ⟨XB, hXB⟩ : ∃ XB, XB = w6.heap.size := ⟨_, rfl⟩
  obtain ⟨W6, hW6⟩ : ∃ W6 : World, W6 = w6.alloc (.cells #[.bool false, .int .i64 2, .int .i64 0, .slice xa 1 xc] 31) := ⟨_, rfl⟩
  rw [<- hW6, <- hXB]
  have HX6 := hid (show W6.heap[XB]? = some (.cells #[.bool false, .int .i64 2, .int .i64 0, .slice xa 1 xc] 31 (0, 0)) by rw [hW6, hXB]; exact Qu w6 _)
  have hb67 : Below w6.heap.size w6 W6 := by rw [hW6]; exact zAd w6 _
  have HS7 := hid (HS6.out.kept hb67)
  have HR6 := hid (HO6.out.rd.kept hb67)
  have HB7 := hid (zAa HB6.out hb67)
  have HBW7 := hid (show Below w.heap.size w W6 from zAa HBW6.out hb67)
  have HC7 := hid (zAa HC6.out hb67)
  have HROW := hid (zOo zLf (by decide) (by decide) 0 W6 HS7.out)
  rw [zWr] at HROW
  clear hW6 hXB hb67
  go_wp2_with fail
  refine HROW.out.mono ?_
  rintro e w8 ⟨hret, hb8⟩
  obtain ⟨rv, rl, rfl, hrl, how⟩ := hret
  obtain ⟨ra, rc, rfl⟩ := zBc how.row
  have hrln : rl.length = 2 := by have := congrArg Qs hrl; simpa using this
  have HRW := hid (show RdRow w8 (.slice ra rl.length rc) [⟨false, 1, 3, []⟩, ⟨true, 2, 0, []⟩] from ⟨rl, hrl, how.ownV.rdP⟩)
  rw [hrln] at HRW ⊢
  have HB8 := hid (zAa HB7.out hb8)
  have HBW8 := hid (show Below w.heap.size w w8 from zAa HBW7.out hb8)
  have HC8 := hid (zAa HC7.out hb8)
  have HS8 := hid (HS7.out.kept hb8)
  have HX8 := hid ((hb8.block XB (Qc.1 HX6.out).1).trans HX6.out)
  have HR8 := hid (HR6.out.kept hb8)
  clear hrl how hrln hb8
  go_upto_region 13 with (fail)
  obtain ⟨PB, hPB⟩ : ∃ PB, PB = w8.heap.size := ⟨_, rfl⟩
  obtain ⟨W8, hW8⟩ : ∃ W8 : World, W8 = w8.alloc (.cells #[.int .i64 2, .int .i64 0, .int .i64 5, .bool false, .int .i64 1, .int .i64 3, .slice none 0 0, .slice none 0 0] 65) := ⟨_, rfl⟩
  rw [<- hW8, <- hPB]
  have HP8 := hid (show W8.heap[PB]? = some (.cells #[.int .i64 2, .int .i64 0, .int .i64 5, .bool false, .int .i64 1, .int .i64 3, .slice none 0 0, .slice none 0 0] 65 (0, 0)) by rw [hW8, hPB]; exact Qu w8 _)
  have hb89 : Below w8.heap.size w8 W8 := by rw [hW8]; exact zAd w8 _
  have HS9 := hid (HS8.out.kept hb89)
  have HB9 := hid (zAa HB8.out hb89)
  have HBW9 := hid (show Below w.heap.size w W8 from zAa HBW8.out hb89)
  have HC9 := hid (zAa HC8.out hb89)
  have HX9 := hid ((hb89.block XB (Qc.1 HX8.out).1).trans HX8.out)
  have HR9 := hid (HR8.out.kept hb89)
  have HRW9 := hid (HRW.out.kept hb89)
  have hrp : ∀ w', RdT1 w' awP [.int .i64 2, .int .i64 0, .int .i64 5, .bool false, .int .i64 1, .int .i64 3, .slice none 0 0, .slice none 0 0] := fun w' => by
   unfold awP RdT1
   exact ⟨.slice none 0 0, .slice none 0 0, [], rfl, ⟨Rd.nil _, fun x hx => (by cases hx)⟩, RdS.nil _ _, by unfold RdTs; trivial⟩
  have HRP := hid hrp
  have HPK := hid (zTa zLf (by decide) (by decide) awP _ W8 (hrp W8) HS9.out (fun w' hb zv zs hz hl => zOp 0 5 _ (by simp) _ zv zs _ w' (hrp w') hz (by omega)) (fun w' hb rv r hrr hrl => zTg 0 5 _ (by simp) _ rv r w' (hrp w') hrr hrl))
  rw [show awR.length = 2 from rfl, zV9] at HPK
  have cp0 : W8.cell? ⟨PB, 0, none⟩ = some (.int .i64 2) := (by rw [Qt W8 PB 0 _ _ _ HP8.out]; rfl)
  have cp1 : W8.cell? ⟨PB, 1, none⟩ = some (.int .i64 0) := (by rw [Qt W8 PB 1 _ _ _ HP8.out]; rfl)
  have cp2 : W8.cell? ⟨PB, 2, none⟩ = some (.int .i64 5) := (by rw [Qt W8 PB 2 _ _ _ HP8.out]; rfl)
  have cp3 : W8.cell? ⟨PB, 3, none⟩ = some (.bool false) := (by rw [Qt W8 PB 3 _ _ _ HP8.out]; rfl)
  have cp4 : W8.cell? ⟨PB, 4, none⟩ = some (.int .i64 1) := (by rw [Qt W8 PB 4 _ _ _ HP8.out]; rfl)
  have cp5 : W8.cell? ⟨PB, 5, none⟩ = some (.int .i64 3) := (by rw [Qt W8 PB 5 _ _ _ HP8.out]; rfl)
  have cp6 : W8.cell? ⟨PB, 6, none⟩ = some (.slice none 0 0) := (by rw [Qt W8 PB 6 _ _ _ HP8.out]; rfl)
  have cp7 : W8.cell? ⟨PB, 7, none⟩ = some (.slice none 0 0) := (by rw [Qt W8 PB 7 _ _ _ HP8.out]; rfl)
  clear hW8 hPB hb89 hrp
  go_wp2_with fail
  refine HPK.out.mono ?_
  rintro e w10 ⟨pv, rfl, hop, hb10⟩
  obtain ⟨pg, pc, rfl⟩ := Joins.ownsRow_form hop (by decide)
  have hpl : ([1] : List Nat).length = 1 := rfl
  rw [hpl] at hop ⊢
  have HOP10 := hid hop
  have HB10 := hid (zAa HB9.out hb10)
  have HBW10 := hid (show Below w.heap.size w w10 from zAa HBW9.out hb10)
  have HP10 := hid ((hb10.block PB (Qc.1 HP8.out).1).trans HP8.out)
  have HRW10 := hid (HRW9.out.kept hb10)
  have hx10 := (hb10.block XB (Qc.1 HX9.out).1).trans HX9.out
  have hs10 := HS9.out.kept hb10
  have HS10 := hid hs10
  obtain ⟨zs, zv, kv, tv, hhx, hzr, hzt⟩ := hs10.blk
  obtain ⟨za, zc, rfl⟩ := zCs hzr
  have hzl : zs.length = 2 := by have := congrArg Qs hzt; rw [List.length_map] at this; rw [this]; rfl
  rw [hzl] at hhx hzr
  obtain ⟨z1, hz1⟩ : ∃ z1, zs[1]? = some z1 := ⟨_, Qd (by omega)⟩
  have hz1n : z1.n = 1 := by
   have h := zU9
   rw [<- hzt, Qf, hz1] at h
   simpa [Zv.t] using h
  obtain ⟨zb, zo, rfl, hzc⟩ := hzr.1.at (k := 1) (t := cellsZ z1) (by rw [Qf, hz1]; rfl)
  have z10 : w10.cell? ⟨zb, zo + 1 * 9, none⟩ = some (.int .i64 1) := by have h := hzc 0 _ rfl; rw [hz1n] at h; simpa using h
  simp only [Nat.one_mul] at z10
  have hc10 := zAa HC9.out hb10
  have HC10 := hid hc10
  obtain ⟨_, zvg, kvg, tvg, hgx, _, _⟩ := (HSEG3.out.kept hc10).blk
  have g0 : w10.cell? ⟨g, 0, none⟩ = some (.int .i64 2) := by rw [Qt w10 g 0 _ _ _ hgx]; rfl
  have q1 : w10.cell? ⟨h, 1, none⟩ = some (.slice (some ⟨zb, zo, none⟩) 2 zc) := by rw [Qt w10 h 1 _ _ _ hhx]; rfl
  have x3 : w10.cell? ⟨XB, 3, none⟩ = some (.slice xa 1 xc) := by rw [Qt w10 XB 3 _ _ _ hx10]; rfl
  have cv : (Go.convert 29 9 (.slice xa 1 xc)).run Tryz.prog w10 = .ok (.string ⟨#[120]⟩) w10 := zBx (P := Tryz.prog) w10 29 9 5 Tryz.underlying29 Tryz.underlying5 Tryz.underlying9 (bs := [120]) (HR9.out.kept hb10) (by simp)
  have hrx := (HB10.out.block b5 (Qc.1 HX5.out).1).trans HX5.out
  have r0 : w10.cell? ⟨b5, 0, none⟩ = some (.slice (some ⟨b2, 0, none⟩) 2 2) := by rw [Qt w10 b5 0 _ _ _ hrx]; rfl
  have HSM := hid (zGt (.slice ra 2 rc) (.slice (some ⟨b2, 0, none⟩) 2 2) [⟨false, 1, 3, []⟩, ⟨true, 2, 0, []⟩] [⟨false, 1, 3, []⟩, ⟨true, 2, 0, []⟩] w10 HRW10.out ⟨_, rfl, HV0.out.kept HB10.out⟩ (by decide) (by decide))
  rw [zPy] at HSM
  have HHX := hid hhx
  have HMAY := hid fun w' (h : Below w10.heap.size w10 w') => zI9 awP _ (.slice (some ⟨zb, zo, none⟩) 2 zc) zs 2 w' (HRP.out w') (hzr.kept h) fun w'' hb2 => zOp 0 5 _ (by simp) _ _ zs _ w'' (HRP.out w'') (hzr.kept (zAa h hb2)) (by omega)
  rw [hzt, zWp] at HMAY
  have HSMw := hid fun w' (h : Below w10.heap.size w10 w') => zGt (.slice ra 2 rc) (.slice (some ⟨b2, 0, none⟩) 2 2) [⟨false, 1, 3, []⟩, ⟨true, 2, 0, []⟩] [⟨false, 1, 3, []⟩, ⟨true, 2, 0, []⟩] w' (HRW10.out.kept h) ⟨_, rfl, HV0.out.kept (zAa HB10.out h)⟩ (by decide) (by decide)
  rw [zPy] at HSMw
  have hp0 : w10.cell? ⟨pg, 0, none⟩ = some (.int .i64 1) := (hop.cellAt 0 (by decide)).trans rfl
  have hpx := HP10.out
  have k0 : w10.cell? ⟨h, 0, none⟩ = some (.int .i64 2) := by rw [Qt w10 h 0 _ _ _ hhx]; rfl
  have cr0 : w10.cell? ⟨PB, 0, none⟩ = some (.int .i64 2) := (by rw [Qt w10 PB 0 _ _ _ hpx]; rfl)
  have cr1 : w10.cell? ⟨PB, 1, none⟩ = some (.int .i64 0) := (by rw [Qt w10 PB 1 _ _ _ hpx]; rfl)
  have cr2 : w10.cell? ⟨PB, 2, none⟩ = some (.int .i64 5) := (by rw [Qt w10 PB 2 _ _ _ hpx]; rfl)
  have cr3 : w10.cell? ⟨PB, 3, none⟩ = some (.bool false) := (by rw [Qt w10 PB 3 _ _ _ hpx]; rfl)
  have cr4 : w10.cell? ⟨PB, 4, none⟩ = some (.int .i64 1) := (by rw [Qt w10 PB 4 _ _ _ hpx]; rfl)
  have cr5 : w10.cell? ⟨PB, 5, none⟩ = some (.int .i64 3) := (by rw [Qt w10 PB 5 _ _ _ hpx]; rfl)
  have cr6 : w10.cell? ⟨PB, 6, none⟩ = some (.slice none 0 0) := (by rw [Qt w10 PB 6 _ _ _ hpx]; rfl)
  have cr7 : w10.cell? ⟨PB, 7, none⟩ = some (.slice none 0 0) := (by rw [Qt w10 PB 7 _ _ _ hpx]; rfl)
  have hcv : ∀ w', Below w10.heap.size w10 w' -> (Go.convert 29 9 (.slice xa 1 xc)).run Tryz.prog w' = .ok (.string ⟨#[120]⟩) w' := fun w' hw => zBx (P := Tryz.prog) w' 29 9 5 Tryz.underlying29 Tryz.underlying5 Tryz.underlying9 (bs := [120]) ((HR9.out.kept hb10).kept hw) (by simp)
  have HKP := hid (show ∀ w', Below w10.heap.size w10 w' -> w'.cell? ⟨g, 0, none⟩ = some (.int .i64 2) ∧ w'.cell? ⟨h, 0, none⟩ = some (.int .i64 2) ∧ w'.cell? ⟨h, 1, none⟩ = some (.slice (some ⟨zb, zo, none⟩) 2 zc) ∧ w'.cell? ⟨zb, zo + 9, none⟩ = some (.int .i64 1) ∧ w'.cell? ⟨XB, 3, none⟩ = some (.slice xa 1 xc) ∧ w'.cell? ⟨b5, 0, none⟩ = some (.slice (some ⟨b2, 0, none⟩) 2 2) ∧ w'.cell? ⟨pg, 0, none⟩ = some (.int .i64 1) ∧ w'.cell? ⟨PB, 0, none⟩ = some (.int .i64 2) ∧ w'.cell? ⟨PB, 1, none⟩ = some (.int .i64 0) ∧ w'.cell? ⟨PB, 2, none⟩ = some (.int .i64 5) ∧ w'.cell? ⟨PB, 3, none⟩ = some (.bool false) ∧ w'.cell? ⟨PB, 4, none⟩ = some (.int .i64 1) ∧ w'.cell? ⟨PB, 5, none⟩ = some (.int .i64 3) ∧ w'.cell? ⟨PB, 6, none⟩ = some (.slice none 0 0) ∧ w'.cell? ⟨PB, 7, none⟩ = some (.slice none 0 0) ∧ (Go.convert 29 9 (.slice xa 1 xc)).run Tryz.prog w' = .ok (.string ⟨#[120]⟩) w' ∧ Below w10.heap.size w10 w' from fun w' hw =>
   have hc : ∀ {b i : Nat} {v : Value}, w10.cell? ⟨b, i, none⟩ = some v -> w'.cell? ⟨b, i, none⟩ = some v := fun {b i v} h => (hw.cell (p := ⟨b, i, none⟩) (Qr _ _ h)).trans h
   ⟨hc g0, hc k0, hc q1, hc z10, hc x3, hc r0, hc hp0, hc cr0, hc cr1, hc cr2, hc cr3, hc cr4, hc cr5, hc cr6, hc cr7, hcv w' hw, hw⟩)
  clear hop hb10 hx10 hs10 hhx hzr hzt hzl hz1 hz1n hzc hc10 hgx hrx hpx hcv cv cp0 cp1 cp2 cp3 cp4 cp5 cp6 cp7 g0 k0 q1 z10 x3 r0 hp0 cr0 cr1 cr2 cr3 cr4 cr5 cr6 cr7
  have hkp0 := HKP.out w10 (Qi _ _)
  go_upto_region 14 with (fail)
  simp only [List.append_eq, List.cons_append, List.nil_append]
  set_option maxRecDepth 1000000 in
  go_region_held3 (fun w' => w'.cell? ⟨g, 0, none⟩ = some (.int .i64 2) ∧ w'.cell? ⟨h, 0, none⟩ = some (.int .i64 2) ∧ w'.cell? ⟨h, 1, none⟩ = some (.slice (some ⟨zb, zo, none⟩) 2 zc) ∧ w'.cell? ⟨zb, zo + 9, none⟩ = some (.int .i64 1) ∧ w'.cell? ⟨XB, 3, none⟩ = some (.slice xa 1 xc) ∧ w'.cell? ⟨b5, 0, none⟩ = some (.slice (some ⟨b2, 0, none⟩) 2 2) ∧ w'.cell? ⟨pg, 0, none⟩ = some (.int .i64 1) ∧ w'.cell? ⟨PB, 0, none⟩ = some (.int .i64 2) ∧ w'.cell? ⟨PB, 1, none⟩ = some (.int .i64 0) ∧ w'.cell? ⟨PB, 2, none⟩ = some (.int .i64 5) ∧ w'.cell? ⟨PB, 3, none⟩ = some (.bool false) ∧ w'.cell? ⟨PB, 4, none⟩ = some (.int .i64 1) ∧ w'.cell? ⟨PB, 5, none⟩ = some (.int .i64 3) ∧ w'.cell? ⟨PB, 6, none⟩ = some (.slice none 0 0) ∧ w'.cell? ⟨PB, 7, none⟩ = some (.slice none 0 0) ∧ (Go.convert 29 9 (.slice xa 1 xc)).run Tryz.prog w' = .ok (.string ⟨#[120]⟩) w' ∧ Below w10.heap.size w10 w')
   (first | assumption | exact HKP.out _ (by first | assumption | exact Qi _ _ | exact zAe _ _ | exact hB9))
   (first
    | (go_at_call 23; refine (HSMw.out _ (by first | exact Qi _ _ | exact zAe _ _ | (have hx := hSw; exact hx.2.2.2.2.2.2.2.2.2.2.2.2.2.2.2.2))).mono ?_; rintro e wA ⟨rfl, hbA⟩; have hBA : Below w10.heap.size w10 wA := (by first | exact hbA | exact zAa (zAe _ _) hbA); have hB9 := hBA)
    | (go_at_call 30; refine (HMAY.out _ (by first | exact hBA | exact zAa hBA (zAe _ _))).mono ?_; rintro e wB ⟨rfl, hbB⟩; have hBB : Below w10.heap.size w10 wB := zAa hBA hbB; have hB9 := hBB))
  all_goals
   have HF := hid (zAa HBW10.out hBB)
   go_wp2_with fail
   go_ret
   exact ⟨rfl, HF.out⟩
end Go.Proofs.YtmpgnjhgegbdkaaGreat
