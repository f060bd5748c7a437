import Derived.Test.YtmpgnjhgegbdkaaGreatZmay
import Derived.Test.YtmpgnjhgegbdkaaGreatLseven
set_option linter.unusedVariables false
set_option linter.unusedSimpArgs false
set_option maxRecDepth 100000
set_option maxHeartbeats 8000000
open Go.Lib (hid)
namespace Go.Proofs.YtmpgnjhgegbdkaaGreat
open Go.RowKit
open _root_.Array renaming getElem?_eq_some_iff -> Qa
open _root_.List renaming mem_singleton -> Qb, mem_of_getElem? -> Qd, length_map -> Qi
open _root_.Nat renaming le_refl -> Qc, lt_of_lt_of_le -> Qh
open Go.IntWalk renaming i64_in -> Qe
open Go.World renaming setCell -> Qf, grownBy_alloc -> Qg
open Go renaming cell_of_row -> Qj, frozen_of_row -> Qk, heap_setCell_same -> Ql, heap_alloc_new -> Qm
theorem zTd (rv : Value) (r : List Vc) (hrl : r.length <= 1000000) (k c o : Int) (v : Vc) (l : List Pt) (hk : k = 2) : EvalOK rv r (.mk k c o v l) := by
 have HK := hid hk
 clear hk
 intro cs D L w0 w lb hrd hr hlb hb hL hD hD2 hc hL2
 unfold RdT1 at hrd
 obtain ⟨s, ls, css, rfl, hok, hls, hts⟩ := hrd
 obtain ⟨sa, sc, hes⟩ := zAf hok.1
 obtain ⟨ea, ec, hel⟩ := zAk hls
 obtain ⟨ra, rc, hrs⟩ := zJn hr
 simp only at hes
 subst hes hel hrs
 have hcl := zBy hts
 obtain ⟨n, hN⟩ : ∃ n, n = l.length := ⟨_, rfl⟩
 rw [hcl, <- hN] at hls ⊢
 unfold depT at hD
 unfold cntT at hc
 rw [<- hN] at hc
 have hD0 : (1 : Int) <= D := by omega
 have hD1 : (D == 0) = false := by rw [beq_eq_false_iff_ne]; omega
 have hn1 : (n : Int) <= L := by omega
 have e1 : IntKind.i64.wrap (L - (n : Int)) = L - (n : Int) := Qe _ (by omega)
 have HD := hid hD
 have HC := hid hc
 have HN := hid hN
 have HLS := hid hls
 have HTS := hid hts
 have HOK := hid hok
 have HR := hid hr
 have HB := hid hb
 have HL := hid hL
 have c0 : ∀ o, (w.alloc o).cell? ⟨lb, 0, none⟩ = some (.int .i64 L) := fun o => by rw [Qj (w.alloc o) lb 0 _ _ _ (zA2 hL o)]; rfl
 have f0 : ∀ o, (w.alloc o).frozen? ⟨lb, 0, none⟩ = false := fun o => Qk (w.alloc o) lb 0 _ _ (zA2 hL o)
 have llt := zD8 hL
 clear hD hc hls hts hok hr hb hL hN hcl
 obtain ⟨vu, vk, vn, vb⟩ := v
 unfold cellsP
 simp only
 go_enter Tryz.func84, Tryz.ntmps84
 go_wp2_with fail
 go_region
 obtain ⟨W2, hW2⟩ : ∃ W2 : World, W2 = ((w.setCell ⟨lb, 0, none⟩ (.int .i64 (L - (n : Int)))).alloc (.cells #[.int .i64 k, .int .i64 c, .int .i64 o, .bool vu, .int .i64 vk, .int .i64 vn, .slice sa vb.length sc, .slice ea n ec] 65)).drew := ⟨_, rfl⟩
 rw [<- hW2]
 have hss : (w.setCell ⟨lb, 0, none⟩ (.int .i64 (L - (n : Int)))).heap.size = w.heap.size := by simp [Qf]
 have hl2 : Lft W2 lb (L - (n : Int)) := by
  rw [hW2]
  exact (heap_alloc_old _ _ (by rw [hss]; exact llt)).trans (Ql w lb 0 _ _ _ HL.out)
 have hx2 : W2.heap[w.heap.size]? = some (.cells #[.int .i64 k, .int .i64 c, .int .i64 o, .bool vu, .int .i64 vk, .int .i64 vn, .slice sa vb.length sc, .slice ea n ec] 65 (0, 0)) := by
  rw [hW2, <- hss]
  exact Qm _ _
 have HB2 := hid (show Below w0.heap.size w0 W2 by rw [hW2]; exact (((HB.out.setCell (p := ⟨lb, 0, none⟩) hlb _).alloc (by rw [hss]; exact HB.out.size) _).trans (zAe _ _)))
 have HG2 := hid (show w.grownBy W2 (some lb) by rw [hW2]; exact zAb (zAb (zAj w ⟨lb, 0, none⟩ _) (Qg _ _ _)) (zA0 _ _ 1))
 obtain ⟨X, hX⟩ : ∃ X, X = w.heap.size := ⟨_, rfl⟩
 rw [<- hX] at hx2 ⊢
 have hcell : ∀ i u, (#[.int .i64 k, .int .i64 c, .int .i64 o, .bool vu, .int .i64 vk, .int .i64 vn, .slice sa vb.length sc, .slice ea n ec] : Array Value)[i]? = some u -> W2.cell? ⟨X, i, none⟩ = some u := fun i u h => by rw [Qj W2 X i _ _ _ hx2]; exact h
 have d0 : W2.cell? ⟨X, 0, none⟩ = some (.int .i64 k) := hcell 0 _ rfl
 have d1 : W2.cell? ⟨X, 1, none⟩ = some (.int .i64 c) := hcell 1 _ rfl
 have d2 : W2.cell? ⟨X, 2, none⟩ = some (.int .i64 o) := hcell 2 _ rfl
 have d3 : W2.cell? ⟨X, 3, none⟩ = some (.bool vu) := hcell 3 _ rfl
 have d4 : W2.cell? ⟨X, 4, none⟩ = some (.int .i64 vk) := hcell 4 _ rfl
 have d5 : W2.cell? ⟨X, 5, none⟩ = some (.int .i64 vn) := hcell 5 _ rfl
 have d6 : W2.cell? ⟨X, 6, none⟩ = some (.slice sa vb.length sc) := hcell 6 _ rfl
 have d7 : W2.cell? ⟨X, 7, none⟩ = some (.slice ea n ec) := hcell 7 _ rfl
 have dl : W2.cell? ⟨lb, 0, none⟩ = some (.int .i64 (L - (n : Int))) := by rw [Qj W2 lb 0 _ _ _ hl2]; rfl
 have hneg : decide (L - (n : Int) < 0) = false := by rw [decide_eq_false_iff_not]; omega
 have HL2 := hid hl2
 have HFIN := hid (show ∀ w', Below W2.heap.size W2 w' -> ∃ L', L <= L' + (cntT (.mk k c o ⟨vu, vk, vn, vb⟩ l) : Int) ∧ L' <= L ∧ Lft w' lb L' ∧ w.grownBy w' (some lb) from fun w' h =>
  ⟨L - (n : Int), by unfold cntT; rw [<- HN.out]; simp; omega, by omega, (h.block lb (zD8 HL2.out)).trans HL2.out, zAb HG2.out ⟨h.os, h.tape, h.output, h.size, fun i hi _ => h.block i hi⟩⟩)
 have HFIN2 := hid (show ∀ (w' : World) (L1 : Int) (m : Nat), L - (n : Int) <= L1 + (m : Int) -> m <= cntL l -> L1 <= L - (n : Int) -> Lft w' lb L1 -> W2.grownBy w' (some lb) -> ∃ L', L <= L' + (cntT (.mk k c o ⟨vu, vk, vn, vb⟩ l) : Int) ∧ L' <= L ∧ Lft w' lb L' ∧ w.grownBy w' (some lb) from fun w' L1 m h1 h1' h2 h3 h4 =>
  ⟨L1, by unfold cntT; rw [<- HN.out]; simp; omega, by omega, h3, zAb HG2.out h4⟩)
 clear hW2 hss hl2 hx2 hX hcell c0 f0 llt HL HG2
 have hk := HK.out
 clear HK
 subst hk
 have HA := hid (show evalT r (.mk 2 c o ⟨vu, vk, vn, vb⟩ l) = cmpE r c o ⟨vu, vk, vn, vb⟩ by unfold evalT; simp)
 have HCL := hid (zOz 2 c o ⟨vu, vk, vn, vb⟩ (.slice sa vb.length sc) (.slice ea n ec) _ r W2 (HOK.out.kept HB2.out) (HR.out.kept HB2.out) hrl)
 unfold aggP at HCL
 simp only at HCL
 go_wp2_with fail
 refine HCL.out.mono ?_
 rintro e w3 ⟨rfl, hb3⟩
 have HF := hid (HFIN.out _ hb3)
 clear hb3
 go_wp2_with fail
 go_ret
 exact ⟨by rw [HA.out] <;> rfl, HF.out⟩
theorem zTe (cs : List Value) (p : Pt) (rv : Value) (r : List Vc) (w : World) (hO : EvalOK rv r p) (hp : RdT1 w p cs) (hr : RdRow w rv r) (hrl : r.length <= 1000000) (hd : depT p <= 1000) (hc : cntT p <= 65536) :
  Calls Tryz.prog 60 #[.agg cs.toArray, rv] w fun e w' => e = .returned (.int .i64 (evalT r p)) ∧ Below w.heap.size w w' := by
 have HO := hid hO
 have HP := hid hp
 have HR := hid hr
 obtain ⟨k, c, o, v, l⟩ := p
 unfold RdT1 at hp
 obtain ⟨s, ls, css, rfl, hok, hls, hts⟩ := hp
 obtain ⟨sa, sc, hes⟩ := zAf hok.1
 obtain ⟨ea, ec, hel⟩ := zAk hls
 obtain ⟨ra, rc, hrs⟩ := zJn hr
 simp only at hes
 subst hes hel hrs
 clear hok hls hts hr hO
 obtain ⟨vu, vk, vn, vb⟩ := v
 have hz := Qm (w.alloc (.cells #[.int .i64 k, .int .i64 c, .int .i64 o, .bool vu, .int .i64 vk, .int .i64 vn, .slice sa vb.length sc, .slice ea css.length ec] 65)) (.cells #[.int .i64 65536] 3)
 rw [show (w.alloc (.cells #[.int .i64 k, .int .i64 c, .int .i64 o, .bool vu, .int .i64 vk, .int .i64 vn, .slice sa vb.length sc, .slice ea css.length ec] 65)).heap.size = w.heap.size + 1 by simp] at hz
 have HC := hid (HO.out _ 1000 65536 w _ (w.heap.size + 1) HP.out HR.out (by omega) (zAq w (.cells #[.int .i64 k, .int .i64 c, .int .i64 o, .bool vu, .int .i64 vk, .int .i64 vn, .slice sa vb.length sc, .slice ea css.length ec] 65) (.cells #[.int .i64 65536] 3)) hz (by omega) (by decide) (by omega) (by decide))
 clear hz
 unfold cellsP at HC ⊢
 simp only at HC ⊢
 go_enter Tryz.func60, Tryz.ntmps60
 go_wp2_with fail
 refine HC.out.mono ?_
 rintro e w3 ⟨rfl, L3, g1, g2, g3, g4⟩
 have HF := hid (show Below w.heap.size w w3 from (zAq w _ _).grown g4 (by simp; omega) (fun k e => by cases e; omega))
 clear g1 g2 g3 g4
 go_wp2_with fail
 go_ret
 exact ⟨rfl, HF.out⟩
def NrmF (p : Pt) : Prop :=
 ∀ (cs : List Value) (L : Int) (X : Nat -> Prop) (w : World) (lb : Nat), RdT1F X w p cs -> X lb -> Lft w lb L -> (nodesT p : Int) <= L -> L <= 1000000 ->
  Calls Tryz.prog 113 #[.agg cs.toArray, .bool false, .pointer (some ⟨lb, 0, none⟩)] w fun e w' => RetN X w (nrm p false) e w' ∧ ∃ L', L <= L' + (nodesT p : Int) ∧ L' <= L ∧ Lft w' lb L' ∧ w.grownBy w' (some lb)
theorem zPh (k c o : Int) (v : Vc) (l : List Pt) (hk : k = 2) (hl6 : l.length <= 1000000) : NrmF (.mk k c o v l) := by
 intro cs L X w lb hrd hx hL hc hL2
 have HK := hid hk
 clear hk
 have HRD := hid hrd
 unfold RdT1F at hrd
 obtain ⟨s, ls, css, rfl, hok, hls, hts⟩ := hrd
 obtain ⟨sa, sc, hes⟩ := zAf hok.now.1
 obtain ⟨ea, ec, hel⟩ := zAk hls.now
 simp only at hes
 subst hes hel
 have hcl := zBy hts.now
 obtain ⟨n, hN⟩ : ∃ n, n = l.length := ⟨_, rfl⟩
 rw [hcl, <- hN] at hls HRD ⊢
 rw [<- hN] at hl6
 unfold nodesT at hc
 have HC := hid hc
 have HN := hid hN
 have HLS := hid hls
 have HTS := hid hts
 have HXL := hid hx
 have hL1 : 1 <= L := by omega
 have e1 : IntKind.i64.wrap (L - 1) = L - 1 := Qe _ (by omega)
 have c0 : ∀ o, (w.alloc o).cell? ⟨lb, 0, none⟩ = some (.int .i64 L) := fun o => by rw [Qj (w.alloc o) lb 0 _ _ _ (zA2 hL o)]; rfl
 have f0 : ∀ o, (w.alloc o).frozen? ⟨lb, 0, none⟩ = false := fun o => Qk (w.alloc o) lb 0 _ _ (zA2 hL o)
 have llt := zD8 hL
 have HL := hid hL
 clear hc hls hts hok hL hN hcl hx
 obtain ⟨vu, vk, vn, vb⟩ := v
 unfold cellsP at HRD ⊢
 simp only at HRD ⊢
 go_enter Tryz.func113, Tryz.ntmps113
 go_upto_region 2 with (fail)
 obtain ⟨W2, hW2⟩ : ∃ W2 : World, W2 = ((w.setCell ⟨lb, 0, none⟩ (.int .i64 (L - 1))).alloc (.cells #[.int .i64 k, .int .i64 c, .int .i64 o, .bool vu, .int .i64 vk, .int .i64 vn, .slice sa vb.length sc, .slice ea n ec] 65)) := ⟨_, rfl⟩
 rw [<- hW2]
 have hss : (w.setCell ⟨lb, 0, none⟩ (.int .i64 (L - 1))).heap.size = w.heap.size := by simp [Qf]
 have hl2 : Lft W2 lb (L - 1) := by
  rw [hW2]
  exact (heap_alloc_old _ _ (by rw [hss]; exact llt)).trans (Ql w lb 0 _ _ _ HL.out)
 have hx2 : W2.heap[w.heap.size]? = some (.cells #[.int .i64 k, .int .i64 c, .int .i64 o, .bool vu, .int .i64 vk, .int .i64 vn, .slice sa vb.length sc, .slice ea n ec] 65 (0, 0)) := by
  rw [hW2, <- hss]
  exact Qm _ _
 have hg2 : w.grownBy W2 (some lb) := by rw [hW2]; exact zAb (zAj w ⟨lb, 0, none⟩ _) (Qg _ _ _)
 have HG2 := hid hg2
 have HR2 := hid (RdT1F.to (Y := fun b => X b ∨ w.heap.size <= b) (zCz hg2) (fun b _ h => by cases h; exact HXL.out) (fun b hb h => h.elim id fun h => by omega) _ HRD.out)
 have HTS2 := hid (RdTsF.to (Y := fun b => X b ∨ w.heap.size <= b) (zCz hg2) (fun b _ h => by cases h; exact HXL.out) (fun b hb h => h.elim id fun h => by omega) _ HTS.out)
 have HLS2 := hid (HLS.out.to (Y := fun b => X b ∨ w.heap.size <= b) (zCz hg2) (fun b _ h => by cases h; exact HXL.out) (fun b hb h => h.elim id fun h => by omega))
 obtain ⟨XB, hX⟩ : ∃ XB, XB = w.heap.size := ⟨_, rfl⟩
 have HXB := hid hX
 have HLT := hid llt
 have HSZ := hid (show w.heap.size < W2.heap.size from (Qa.1 hx2).1)
 rw [<- hX] at hx2 ⊢
 have hcell : ∀ i u, (#[.int .i64 k, .int .i64 c, .int .i64 o, .bool vu, .int .i64 vk, .int .i64 vn, .slice sa vb.length sc, .slice ea n ec] : Array Value)[i]? = some u -> W2.cell? ⟨XB, i, none⟩ = some u := fun i u h => by rw [Qj W2 XB i _ _ _ hx2]; exact h
 have d0 : W2.cell? ⟨XB, 0, none⟩ = some (.int .i64 k) := hcell 0 _ rfl
 have d1 : W2.cell? ⟨XB, 1, none⟩ = some (.int .i64 c) := hcell 1 _ rfl
 have d2 : W2.cell? ⟨XB, 2, none⟩ = some (.int .i64 o) := hcell 2 _ rfl
 have d3 : W2.cell? ⟨XB, 3, none⟩ = some (.bool vu) := hcell 3 _ rfl
 have d4 : W2.cell? ⟨XB, 4, none⟩ = some (.int .i64 vk) := hcell 4 _ rfl
 have d5 : W2.cell? ⟨XB, 5, none⟩ = some (.int .i64 vn) := hcell 5 _ rfl
 have d6 : W2.cell? ⟨XB, 6, none⟩ = some (.slice sa vb.length sc) := hcell 6 _ rfl
 have d7 : W2.cell? ⟨XB, 7, none⟩ = some (.slice ea n ec) := hcell 7 _ rfl
 have dl : W2.cell? ⟨lb, 0, none⟩ = some (.int .i64 (L - 1)) := by rw [Qj W2 lb 0 _ _ _ hl2]; rfl
 have hneg : decide (L - 1 < 0) = false := by rw [decide_eq_false_iff_not]; omega
 have HX2 := hid hx2
 have HL2 := hid hl2
 have HFIN := hid (show ∀ w', Agree (fun b => b = w.heap.size) W2 w' -> ∃ L', L <= L' + (nodesT (.mk k c o ⟨vu, vk, vn, vb⟩ l) : Int) ∧ L' <= L ∧ Lft w' lb L' ∧ w.grownBy w' (some lb) from fun w' h =>
  ⟨L - 1, by unfold nodesT; omega, by omega, (h.block lb (zD8 HL2.out) (by have := HLT.out; omega)).trans HL2.out, ⟨h.os.trans HG2.out.os, h.tape.trans HG2.out.tape, h.output.trans HG2.out.output, Nat.le_trans HG2.out.size h.size, fun i hi hn => (h.block i (Qh hi HG2.out.size) (by omega)).trans (HG2.out.block i hi hn)⟩⟩)
 have HFI2 := hid (show ∀ (L1 : Int) (w' : World) (m : Nat), L - 1 <= L1 + (m : Int) -> m <= nodesL l -> L1 <= L - 1 -> Lft w' lb L1 -> W2.grownBy w' (some lb) -> ∃ L', L <= L' + (nodesT (.mk k c o ⟨vu, vk, vn, vb⟩ l) : Int) ∧ L' <= L ∧ Lft w' lb L' ∧ w.grownBy w' (some lb) from fun L1 w' m h1 h2 h3 h4 h5 =>
  ⟨L1, by unfold nodesT; omega, by omega, h4, zAb HG2.out h5⟩)
 have HRN := hid (show ∀ (r : Option (List (List Pt))) (e : Ending) (w' : World), RetN (fun b => X b ∨ w.heap.size <= b) W2 r e w' -> RetN X w r e w' from fun r e w' h => by
  cases r with
  | none => exact h
  | some a =>
   obtain ⟨v, h1, h2⟩ := h
   exact ⟨v, h1, h2.mono fun b _ hb => ⟨.inl hb.1, by have := hb.2; have := HSZ.out; omega⟩⟩)
 have HON2 := hid (show ∀ (wz : World) (p' : Pt) (cs8 : Array Value), W2.heap.size <= wz.heap.size -> cs8.size = 8 -> Free (fun b => X b ∧ b < w.heap.size) wz (fun w' => RdT1 w' p' cs8.toList) ->
   RetN X w (some [[p']]) (.returned (.tuple #[.slice (some ⟨wz.heap.size + 1, 0, none⟩) 1 1, .bool true])) ((wz.alloc (.cells cs8 65)).alloc (.cells #[.slice (some ⟨wz.heap.size, 0, none⟩) 1 1] 63)) from fun wz p' cs8 h1 h2 h3 =>
  ⟨_, rfl, zWu (fun b hb => by have := hb.2; have := HSZ.out; omega) h2 h3⟩)
 clear hW2 hss hl2 hx2 hX hcell c0 f0 llt HL hg2
 have hk := HK.out
 clear HK
 subst hk
 have HA := hid (HON2.out W2 _ #[.int .i64 2, .int .i64 c, .int .i64 o, .bool vu, .int .i64 vk, .int .i64 vn, .slice sa vb.length sc, .slice ea n ec] (Qc _) rfl (RdT1F.free _ (RdT1F.to (zCz HG2.out) (fun b _ h => by cases h; exact HXL.out) (fun b hb h => h.1) _ HRD.out)))
 have HF := hid (HFIN.out _ (((zBs _ W2 (.cells #[.int .i64 2, .int .i64 c, .int .i64 o, .bool vu, .int .i64 vk, .int .i64 vn, .slice sa vb.length sc, .slice ea n ec] 65))).alloc (.cells #[.slice (some ⟨W2.heap.size, 0, none⟩) 1 1] 63)))
 go_wp2_with fail
 go_ret2
 exact ⟨by unfold nrm; exact HA.out, HF.out⟩
theorem zU7 (p : Pt) (hN : NrmF p) (hLF : ∀ a, nrm p false = some a -> (∀ x ∈ a, ∀ t ∈ x, LeafN 900 60000 t) ∧ SmallN a) (hn : nodesT p <= 4096) (cs : List Value) (w : World) (hr : RdT1 w p cs) :
  Calls Tryz.prog 85 #[.agg cs.toArray] w fun e w' => RetP w (normT p) e w' ∧ Below w.heap.size w w' := by
 obtain ⟨r, hrr⟩ : ∃ r, r = nrm p false := ⟨_, rfl⟩
 have HT := hid (show normT p = r.map fun a => .mk 5 0 0 zeroV (a.map fun x => .mk 4 0 0 zeroV x) by rw [hrr]; rfl)
 have HLF := hid (show ∀ a, r = some a -> (∀ x ∈ a, ∀ t ∈ x, LeafN 900 60000 t) ∧ SmallN a from fun a ha => hLF a (hrr ▸ ha))
 have HN := hN
 have HRD := hid hr
 obtain ⟨k, c, o, v, l⟩ := p
 unfold RdT1 at hr
 obtain ⟨s, ls, css, rfl, hok, hls, hts⟩ := hr
 obtain ⟨sa, sc, hes⟩ := zAf hok.1
 obtain ⟨ea, ec, hel⟩ := zAk hls
 simp only at hes
 subst hes hel
 obtain ⟨vu, vk, vn, vb⟩ := v
 have hb3 := zDn w (.cells #[.int .i64 k, .int .i64 c, .int .i64 o, .bool vu, .int .i64 vk, .int .i64 vn, .slice sa vb.length sc, .slice ea css.length ec] 65) (.cells #[.int .i64 0, .int .i64 0, .int .i64 0, .bool false, .int .i64 0, .int .i64 0, .slice none 0 0, .slice none 0 0] 65) (.cells #[.int .i64 4096] 3)
 obtain ⟨y1, y2⟩ := zKv w (.cells #[.int .i64 k, .int .i64 c, .int .i64 o, .bool vu, .int .i64 vk, .int .i64 vn, .slice sa vb.length sc, .slice ea css.length ec] 65) (.cells #[.int .i64 0, .int .i64 0, .int .i64 0, .bool false, .int .i64 0, .int .i64 0, .slice none 0 0, .slice none 0 0] 65) (.cells #[.int .i64 4096] 3)
 have hsz : (((w.alloc (.cells #[.int .i64 k, .int .i64 c, .int .i64 o, .bool vu, .int .i64 vk, .int .i64 vn, .slice sa vb.length sc, .slice ea css.length ec] 65)).alloc (.cells #[.int .i64 0, .int .i64 0, .int .i64 0, .bool false, .int .i64 0, .int .i64 0, .slice none 0 0, .slice none 0 0] 65)).alloc (.cells #[.int .i64 4096] 3)).heap.size = w.heap.size + 3 := by simp
 have HCALL := hid (HN _ 4096 (fun b => w.heap.size <= b) _ (w.heap.size + 1 + 1) (RdT1F.to (zO0 hb3 hb3.size) (fun i h1 h2 => h2) (fun i h1 h2 => h2) _ (zN8 _ HRD.out)) (by show _ <= _; omega) y2 (by omega) (by decide))
 rw [<- hrr] at HCALL
 have HB3 := hid hb3
 have HY1 := hid y1
 have HSZ := hid hsz
 clear hb3 y1 y2 hsz HN hN hLF hrr hok hls hts hn
 unfold cellsP at HCALL ⊢
 simp only at HCALL ⊢
 go_enter Tryz.func85, Tryz.ntmps85
 go_wp2_with fail
 refine HCALL.out.mono ?_
 rintro e w3 ⟨hret, L3, g1, g2, g3, g4⟩
 have HB := hid (HB3.out.grown g4 HB3.out.size (fun k e => by cases e; omega))
 have hrb : w3.heap[w.heap.size + 1]? = some (.cells #[.int .i64 0, .int .i64 0, .int .i64 0, .bool false, .int .i64 0, .int .i64 0, .slice none 0 0, .slice none 0 0] 65 (0, 0)) := (g4.block _ (by rw [HSZ.out]; omega) (fun e => by have := Option.some.inj e; omega)).trans HY1.out
 have HS3 := hid (show w.heap.size + 3 <= w3.heap.size by have := g4.size; rw [HSZ.out] at this; exact this)
 obtain ⟨RB, hRB⟩ : ∃ RB, RB = w.heap.size + 1 := ⟨_, rfl⟩
 rw [<- hRB] at hrb ⊢
 have HRB := hid hRB
 clear g1 g2 g3 g4 hRB
 cases r with
 | none =>
  obtain rfl : e = .returned (.tuple #[.slice none 0 0, .bool false]) := hret
  have HX := hid hrb
  have zc0 : w3.cell? ⟨RB, 0, none⟩ = some (.int .i64 0) := by rw [Qj w3 RB 0 _ _ _ hrb]; rfl
  have zf0 : w3.frozen? ⟨RB, 0, none⟩ = false := Qk w3 RB 0 _ _ hrb
  have zc1 : w3.cell? ⟨RB, 1, none⟩ = some (.int .i64 0) := by rw [Qj w3 RB 1 _ _ _ hrb]; rfl
  have zf1 : w3.frozen? ⟨RB, 1, none⟩ = false := Qk w3 RB 1 _ _ hrb
  have zc2 : w3.cell? ⟨RB, 2, none⟩ = some (.int .i64 0) := by rw [Qj w3 RB 2 _ _ _ hrb]; rfl
  have zf2 : w3.frozen? ⟨RB, 2, none⟩ = false := Qk w3 RB 2 _ _ hrb
  have zc3 : w3.cell? ⟨RB, 3, none⟩ = some (.bool false) := by rw [Qj w3 RB 3 _ _ _ hrb]; rfl
  have zf3 : w3.frozen? ⟨RB, 3, none⟩ = false := Qk w3 RB 3 _ _ hrb
  have zc4 : w3.cell? ⟨RB, 4, none⟩ = some (.int .i64 0) := by rw [Qj w3 RB 4 _ _ _ hrb]; rfl
  have zf4 : w3.frozen? ⟨RB, 4, none⟩ = false := Qk w3 RB 4 _ _ hrb
  have zc5 : w3.cell? ⟨RB, 5, none⟩ = some (.int .i64 0) := by rw [Qj w3 RB 5 _ _ _ hrb]; rfl
  have zf5 : w3.frozen? ⟨RB, 5, none⟩ = false := Qk w3 RB 5 _ _ hrb
  have zc6 : w3.cell? ⟨RB, 6, none⟩ = some (.slice none 0 0) := by rw [Qj w3 RB 6 _ _ _ hrb]; rfl
  have zf6 : w3.frozen? ⟨RB, 6, none⟩ = false := Qk w3 RB 6 _ _ hrb
  have zc7 : w3.cell? ⟨RB, 7, none⟩ = some (.slice none 0 0) := by rw [Qj w3 RB 7 _ _ _ hrb]; rfl
  have zf7 : w3.frozen? ⟨RB, 7, none⟩ = false := Qk w3 RB 7 _ _ hrb
  clear hrb
  go_wp2_with fail
  refine bodyPost_ret (results_cell_tmp rfl _ _ RB _ _ (0, 0) _ _ rfl rfl (zD9 HX.out) Tryz.underlying65 rfl zE4) rfl ?_
  have hgs : ∀ i u (wx : World), Below w.heap.size w wx -> Below w.heap.size w (wx.setCell ⟨RB, i, none⟩ u) := fun i u wx h => h.setCell (p := ⟨RB, i, none⟩) (by show _ <= RB; rw [HRB.out]; omega) _
  exact ⟨by rw [HT.out]; exact rfl, hgs _ _ _ (hgs _ _ _ (hgs _ _ _ (hgs _ _ _ (hgs _ _ _ (hgs _ _ _ (hgs _ _ _ (hgs _ _ _ HB.out)))))))⟩
 | some a =>
  obtain ⟨v2, rfl, hv2⟩ : ∃ v, e = .returned (.tuple #[v, .bool true]) ∧ RdNF _ w3 v a := hret
  obtain ⟨ya, yc, rfl⟩ := zQ0 hv2
  obtain ⟨n, hN⟩ : ∃ n, n = a.length := ⟨_, rfl⟩
  rw [<- hN] at hv2 ⊢
  have HN := hid hN
  have hn32 : n <= 32 := by rw [hN]; exact (HLF.out a rfl).2.1
  have HV2 := hid hv2
  have HX := hid hrb
  clear hN hv2 hrb
  go_wp2_with fail
  obtain ⟨W4, hW4⟩ : ∃ W4 : World, W4 = w3.alloc (.cells #[.int .i64 5, .int .i64 0, .int .i64 0, .bool false, .int .i64 0, .int .i64 0, .slice none 0 0, .slice none 0 0] 65) := ⟨_, rfl⟩
  rw [<- hW4]
  have hp4 : W4.heap[w3.heap.size]? = some (.cells #[.int .i64 5, .int .i64 0, .int .i64 0, .bool false, .int .i64 0, .int .i64 0, .slice none 0 0, .slice none 0 0] 65 (0, 0)) := by rw [hW4]; exact Qm w3 _
  have hs4 : W4.heap.size = w3.heap.size + 1 := by rw [hW4]; simp
  have hag4 : Agree (fun b => w3.heap.size <= b) w3 W4 := by rw [hW4]; exact zBs _ _ _
  have HX4 := hid ((show W4.heap[RB]? = w3.heap[RB]? by rw [hW4]; exact heap_alloc_old w3 _ (by rw [HRB.out]; have := HS3.out; omega)).trans HX.out)
  have HB4 := hid (show Below w.heap.size w W4 by rw [hW4]; exact HB.out.alloc HB.out.size _)
  obtain ⟨PB, hPB⟩ : ∃ PB, PB = w3.heap.size := ⟨_, rfl⟩
  rw [<- hPB] at hp4 hs4 hag4 ⊢
  have HPB := hid hPB
  have HP4 := hid hp4
  have HS4 := hid hs4
  have HAG4 := hid hag4
  have HRP := hid (show RB + 2 <= PB by rw [HRB.out, hPB]; have := HS3.out; omega)
  have HWP := hid (show w.heap.size + 3 <= PB by rw [hPB]; exact HS3.out)
  clear hW4 hp4 hs4 hag4 hPB
  go_loopw [21] (fun i wr => ∃ (q : Nat) (vo : Option Addr) (vc : Nat) (css : List (List Value)), q <= n ∧ i = .int .i64 (q : Int) ∧ wr.heap[RB]? = some (.cells #[.int .i64 0, .int .i64 0, .int .i64 0, .bool false, .int .i64 0, .int .i64 0, .slice none 0 0, .slice none 0 0] 65 (0, 0)) ∧ wr.heap[PB]? = some (.cells #[.int .i64 5, .int .i64 0, .int .i64 0, .bool false, .int .i64 0, .int .i64 0, .slice none 0 0, .slice vo q vc] 65 (0, 0)) ∧ css.length = q ∧ wr.ownsRow (PB + 1) 65 8 (.slice vo q vc) q css.flatten ∧ Free (fun b => b = PB ∨ (Value.slice vo q vc).ownBlock = some b) wr (fun w' => RdAs (PB + 1) w' ((a.take q).map fun x => .mk 4 0 0 zeroV x) css) ∧ PB + 1 <= wr.heap.size ∧ Agree (fun b => PB <= b) w3 wr ∧ Below w.heap.size w wr) (fun i _ => n - (intOf i).toNat)
  case atStart => exact ⟨0, none, 0, [], Nat.zero_le _, rfl, HX4.out, HP4.out, rfl, World.ownsRow_nil .., fun w' _ => by simp [RdAs], by rw [HS4.out]; exact Qc _, HAG4.out, HB4.out⟩
  case round =>
   obtain ⟨q, vo, vc, css1, hq, rfl, hx, hp, hcl, hown, hel, hsz, hag, hbel⟩ := hrel
   obtain ⟨wo, rfl⟩ : ∃ wo : World, wo = wr := ⟨_, rfl⟩
   have HXW := hid hx
   have HPW := hid hp
   have HCL := hid hcl
   have HO := hid hown
   have HE := hid hel
   have HZ := hid hsz
   have HAG := hid hag
   have HBW := hid hbel
   have hcp : wo.cell? ⟨PB, 7, none⟩ = some (.slice vo q vc) := by rw [Qj wo _ 7 _ _ _ hp]; rfl
   have hfp : wo.frozen? ⟨PB, 7, none⟩ = false := Qk wo _ 7 _ _ hp
   clear hown hel hbel hsz hx hp hcl hag
   by_cases hlt : q < n
   ·obtain ⟨x, hxa⟩ : ∃ x, a[q]? = some x := ⟨_, List.getElem?_eq_getElem (by rw [<- HN.out]; exact hlt)⟩
    have HXA := hid hxa
    have hv3 := HV2.out.to (Y := fun _ => False) HAG.out (fun i h1 h2 => by rw [HPB.out] at h2; omega) (fun i h1 h2 => h2.elim)
    obtain ⟨xb, xo, xa, xc, rfl, hxc, css2, hfx⟩ := hv3.at hxa
    obtain ⟨lx, hlx⟩ : ∃ lx, lx = x.length := ⟨_, rfl⟩
    rw [<- hlx] at hxc hfx
    have hx32 := (HLF.out a rfl).2.2 x (Qd hxa)
    have hpo : ∀ (i : Nat) (t : Pt), x[i]? = some t -> PredOK t := fun i t ht => by
     have h := (HLF.out a rfl).1 x (Qd hxa) t (Qd ht)
     unfold LeafN at h
     exact zR2 t (by omega) (by omega)
    have HCP := hid (show ∀ W, Below wo.heap.size wo W -> Calls Tryz.prog 114 #[.slice xa lx xc] W fun e w' => ∃ ls' css', e = .returned ls' ∧ RdSK W.heap.size w' 8 ls' css' ∧ RdAs W.heap.size w' x css' ∧ Below W.heap.size W w' from fun W hW => by
     have h1 := hfx W ⟨hW.os, hW.tape, hW.output, hW.size, fun i hi _ => hW.block i hi⟩
     exact zR4 x (by omega) hpo _ css2 W h1.1 h1.2)
    clear hxa hv3 hfx hlx hx32 hpo
    have hltb : decide ((q : Int) < (n : Int)) = true := by rw [decide_eq_true_eq]; omega
    have HOF := hid (show ∀ i, i < PB + 1 -> (Value.slice vo q vc).ownBlock ≠ some i from fun i h e => by have := zAh HO.out i e; omega)
    have HOL := hid (fun g h => (HO.out.lt g h).2)
    go_upto_region 9 with (fail)
    go_region_law
     (first
      | (go_simp; go_at_call 114; refine (HCP.out _ ?_).mono ?_; (exact zAe _ _); rintro e w2 ⟨ls', css', rfl, hls', has', hb2⟩; obtain ⟨la, lc, rfl⟩ := zAk hls'.rd; have HLS2 := hid hls'; have HAS2 := hid has'; have HB2 := hid (show Below wo.heap.size wo w2 from (zAe _ wo).trans hb2); have dp2 : w2.cell? ⟨PB, 7, none⟩ = some (.slice vo q vc) := (HB2.out.cell (World.block_lt_of_cell? _ _ hcp)).trans hcp; have dp3 := fun o => Lib.cell?_alloc_some (W := w2) o dp2; clear hls' has' hb2)
      | (refine zBf zVq (by rfl) _ _ (by rfl) (PB + 1) (.slice vo q vc) q css1.flatten (by rfl) ((zAl (X := fun _ => False) HO.out ⟨HB2.out.os, HB2.out.tape, HB2.out.output, HB2.out.size, fun i hi _ => HB2.out.block i hi⟩ (fun _ _ h => h)).alloc _) _ [cellsP 4 0 0 zeroV (.slice none 0 0) (.slice la css'.length lc)] (by rfl) (zBb w2 _ _ 8 rfl) (fun t ht => by rw [Qb.1 ht]; exact ⟨rfl, by simp [cellsP, Value.oneCell']⟩) (by simp; omega) (by have h1 := HB2.out.size; have h2 := HZ.out; simp; omega) (q + 1) rfl ?_; intro ao4 cap4 w4 hown4 hgrow4 hnew4; have HO4 := hid hown4; have HG4 := hid hgrow4; have HN4 := hid hnew4; have hp4 : w4.heap[PB]? = some (.cells #[.int .i64 5, .int .i64 0, .int .i64 0, .bool false, .int .i64 0, .int .i64 0, .slice none 0 0, .slice vo q vc] 65 (0, 0)) := (hgrow4.block PB (by have h1 := HB2.out.size; have h2 := HZ.out; simp; omega) (fun h => HOF.out PB (by omega) h.symm)).trans ((heap_alloc_old w2 _ (by have h1 := HB2.out.size; have h2 := HZ.out; omega)).trans ((HB2.out.block PB (by have h2 := HZ.out; omega)).trans HPW.out)); have HP4W := hid hp4; have hc4 : w4.cell? ⟨PB, 7, none⟩ = some (.slice vo q vc) := by rw [Qj w4 _ 7 _ _ _ hp4]; rfl
         have hf4 : w4.frozen? ⟨PB, 7, none⟩ = false := Qk w4 _ 7 _ _ hp4
         clear hown4 hgrow4 hnew4 hp4))
    all_goals
     go_wp2_with fail
     go_roundw
     case rel =>
      have hz := HZ.out
      have hs2 := HB2.out.size
      have hsa : (w2.alloc (.cells #[.int .i64 4, .int .i64 0, .int .i64 0, .bool false, .int .i64 0, .int .i64 0, .slice none 0 0, .slice la css'.length lc] 65)).heap.size = w2.heap.size + 1 := by simp
      have hag2 : Agree (fun _ => False) wo w2 := ⟨HB2.out.os, HB2.out.tape, HB2.out.output, HB2.out.size, fun i hi _ => HB2.out.block i hi⟩
      have hagx : Agree (fun b => b = PB ∨ (Value.slice vo q vc).ownBlock = some b) w2 (w4.setCell ⟨PB, 7, none⟩ (.slice ao4 (q + 1) cap4)) :=
       ((zBs _ w2 _).thenGrown HG4.out fun i _ h => .inr h).set ⟨PB, 7, none⟩ _ (.inl (.inl rfl))
      have hag5 : Agree (fun b => b = PB ∨ (Value.slice vo q vc).ownBlock = some b) wo (w4.setCell ⟨PB, 7, none⟩ (.slice ao4 (q + 1) cap4)) := (hag2.mono fun _ _ h => h.elim).trans hagx
      have hnb : ∀ b, (Value.slice ao4 (q + 1) cap4).ownBlock = some b -> b < w2.heap.size -> (Value.slice vo q vc).ownBlock = some b := fun b h1 h2 => (HN4.out b h1).elim id fun h => by omega
      have hnp : ∀ b, (Value.slice ao4 (q + 1) cap4).ownBlock = some b -> PB + 1 <= b := fun b h => zAh HO4.out b h
      refine ⟨q + 1, ao4, cap4, css1 ++ [cellsP 4 0 0 zeroV (.slice none 0 0) (.slice la css'.length lc)], by omega, by go_num, ?_, ?_, ?_, ?_, ?_, ?_, ?_, ?_⟩
      ·exact (hag5.block RB (by have := HRP.out; omega) (fun h => h.elim (fun h => by have := HRP.out; omega) fun h => HOF.out RB (by have := HRP.out; omega) h)).trans HXW.out
      ·exact Ql w4 _ 7 _ _ _ HP4W.out
      ·rw [List.length_append, HCL.out]; rfl
      ·have h1 := zAl HO4.out (zGf (fun b => b = PB) w4 ⟨PB, 7, none⟩ (.slice ao4 (q + 1) cap4) rfl) (fun b hb h => by have := hnp b hb; omega)
       rw [List.flatten_append]
       exact h1
      ·have e1 : ((a.take (q + 1)).map fun x => Pt.mk 4 0 0 zeroV x) = ((a.take q).map fun x => Pt.mk 4 0 0 zeroV x) ++ [Pt.mk 4 0 0 zeroV x] := by rw [List.take_add_one, HXA.out, List.map_append]; rfl
       rw [e1]
       intro w' ha
       refine RdAs.snoc ?_ (HE.out w' (hag5.then ha fun i hi h => ?_))
       ·have hab : Above wo.heap.size w2 w' := fun b h1 h2 => (ha.block b (Qh h2 hagx.size) fun h => h.elim (fun h => by omega) fun h => by have := HOL.out b (hnb b h h2); omega).trans (hagx.block b h2 fun h => h.elim (fun h => by omega) fun h => by have := HOL.out b h; omega)
        have hdz : wo.drew.heap.size = wo.heap.size := rfl
        unfold RdA1
        exact ⟨.slice none 0 0, .slice la css'.length lc, css', rfl, ⟨⟨none, 0, rfl, ⟨fun _ => rfl, by simp [zeroV]⟩, fun h => absurd h (by simp [zeroV])⟩, fun x hx => by simp [zeroV] at hx⟩, HLS2.out.above hab (by omega), RdAs.above hab (by omega) _ HAS2.out⟩
       ·rcases h with h | h
        ·exact .inl h
        ·exact .inr (hnb i h (by omega))
      ·have := hag5.size; omega
      ·exact HAG.out.then hag5 fun i hi h => h.elim (fun h => by omega) fun h => by have := zAh HO.out i h; omega
      ·exact HBW.out.trans (hag5.below (fun i hi h => h.elim (fun h => by have := HWP.out; omega) fun h => by have := zAh HO.out i h; have := HWP.out; omega) HBW.out.size)
     case measure => simp [intOf]; omega
   ·have hqn : q = n := by omega
    have hltb : decide ((q : Int) < (n : Int)) = false := by rw [decide_eq_false_iff_not]; omega
    have htk : a.take q = a := List.take_of_length_le (by rw [<- HN.out, hqn]; exact Qc _)
    have HE2 := hid (show Free (fun b => b = PB ∨ (Value.slice vo q vc).ownBlock = some b) wo (fun w' => RdAs (PB + 1) w' (a.map fun x => .mk 4 0 0 zeroV x) css1) by have h := HE.out; rw [htk] at h; exact h)
    have hpw := HPW.out
    have hxw := HXW.out
    have pc0 : wo.cell? ⟨PB, 0, none⟩ = some (.int .i64 5) := by rw [Qj wo PB 0 _ _ _ hpw]; rfl
    have pf0 : wo.frozen? ⟨PB, 0, none⟩ = false := Qk wo PB 0 _ _ hpw
    have pc1 : wo.cell? ⟨PB, 1, none⟩ = some (.int .i64 0) := by rw [Qj wo PB 1 _ _ _ hpw]; rfl
    have pf1 : wo.frozen? ⟨PB, 1, none⟩ = false := Qk wo PB 1 _ _ hpw
    have pc2 : wo.cell? ⟨PB, 2, none⟩ = some (.int .i64 0) := by rw [Qj wo PB 2 _ _ _ hpw]; rfl
    have pf2 : wo.frozen? ⟨PB, 2, none⟩ = false := Qk wo PB 2 _ _ hpw
    have pc3 : wo.cell? ⟨PB, 3, none⟩ = some (.bool false) := by rw [Qj wo PB 3 _ _ _ hpw]; rfl
    have pf3 : wo.frozen? ⟨PB, 3, none⟩ = false := Qk wo PB 3 _ _ hpw
    have pc4 : wo.cell? ⟨PB, 4, none⟩ = some (.int .i64 0) := by rw [Qj wo PB 4 _ _ _ hpw]; rfl
    have pf4 : wo.frozen? ⟨PB, 4, none⟩ = false := Qk wo PB 4 _ _ hpw
    have pc5 : wo.cell? ⟨PB, 5, none⟩ = some (.int .i64 0) := by rw [Qj wo PB 5 _ _ _ hpw]; rfl
    have pf5 : wo.frozen? ⟨PB, 5, none⟩ = false := Qk wo PB 5 _ _ hpw
    have pc6 : wo.cell? ⟨PB, 6, none⟩ = some (.slice none 0 0) := by rw [Qj wo PB 6 _ _ _ hpw]; rfl
    have pf6 : wo.frozen? ⟨PB, 6, none⟩ = false := Qk wo PB 6 _ _ hpw
    have pc7 : wo.cell? ⟨PB, 7, none⟩ = some (.slice vo q vc) := by rw [Qj wo PB 7 _ _ _ hpw]; rfl
    have pf7 : wo.frozen? ⟨PB, 7, none⟩ = false := Qk wo PB 7 _ _ hpw
    have zc0 : wo.cell? ⟨RB, 0, none⟩ = some (.int .i64 0) := by rw [Qj wo RB 0 _ _ _ hxw]; rfl
    have zf0 : wo.frozen? ⟨RB, 0, none⟩ = false := Qk wo RB 0 _ _ hxw
    have zc1 : wo.cell? ⟨RB, 1, none⟩ = some (.int .i64 0) := by rw [Qj wo RB 1 _ _ _ hxw]; rfl
    have zf1 : wo.frozen? ⟨RB, 1, none⟩ = false := Qk wo RB 1 _ _ hxw
    have zc2 : wo.cell? ⟨RB, 2, none⟩ = some (.int .i64 0) := by rw [Qj wo RB 2 _ _ _ hxw]; rfl
    have zf2 : wo.frozen? ⟨RB, 2, none⟩ = false := Qk wo RB 2 _ _ hxw
    have zc3 : wo.cell? ⟨RB, 3, none⟩ = some (.bool false) := by rw [Qj wo RB 3 _ _ _ hxw]; rfl
    have zf3 : wo.frozen? ⟨RB, 3, none⟩ = false := Qk wo RB 3 _ _ hxw
    have zc4 : wo.cell? ⟨RB, 4, none⟩ = some (.int .i64 0) := by rw [Qj wo RB 4 _ _ _ hxw]; rfl
    have zf4 : wo.frozen? ⟨RB, 4, none⟩ = false := Qk wo RB 4 _ _ hxw
    have zc5 : wo.cell? ⟨RB, 5, none⟩ = some (.int .i64 0) := by rw [Qj wo RB 5 _ _ _ hxw]; rfl
    have zf5 : wo.frozen? ⟨RB, 5, none⟩ = false := Qk wo RB 5 _ _ hxw
    have zc6 : wo.cell? ⟨RB, 6, none⟩ = some (.slice none 0 0) := by rw [Qj wo RB 6 _ _ _ hxw]; rfl
    have zf6 : wo.frozen? ⟨RB, 6, none⟩ = false := Qk wo RB 6 _ _ hxw
    have zc7 : wo.cell? ⟨RB, 7, none⟩ = some (.slice none 0 0) := by rw [Qj wo RB 7 _ _ _ hxw]; rfl
    have zf7 : wo.frozen? ⟨RB, 7, none⟩ = false := Qk wo RB 7 _ _ hxw
    clear hpw hxw hqn htk
    go_wp2_with fail
    refine bodyPost_ret (results_cell_tmp rfl _ _ RB _ _ (0, 0) _ _ rfl rfl (zD9 HXW.out) Tryz.underlying65 rfl zE4) rfl ?_
    have hst : ∀ i u (wx : World), Agree (fun b => b = RB) wo wx -> Agree (fun b => b = RB) wo (wx.setCell ⟨RB, i, none⟩ u) := fun i u wx h => h.set ⟨RB, i, none⟩ u (.inl rfl)
    have hag8 := hst 7 (.slice vo q vc) _ (hst 6 (.slice none 0 0) _ (hst 5 (.int .i64 0) _ (hst 4 (.int .i64 0) _ (hst 3 (.bool false) _ (hst 2 (.int .i64 0) _ (hst 1 (.int .i64 0) _ (hst 0 (.int .i64 5) _ (Agree.refl _ wo))))))))
    refine ⟨?_, HBW.out.trans (hag8.below (fun i hi h => by have := HRB.out; omega) HBW.out.size)⟩
    have hRB := HRP.out
    have hWP := HWP.out
    have hab : Above (PB + 1) wo _ := zO1 hag8 (fun i h => by omega)
    rw [HT.out]
    refine ⟨cellsP 5 0 0 zeroV (.slice none 0 0) (.slice vo q vc), rfl, ?_⟩
    unfold RdA1
    have hE := HE2.out.now
    refine ⟨.slice none 0 0, .slice vo q vc, css1, rfl, ⟨⟨none, 0, rfl, ⟨fun _ => rfl, by simp [zeroV]⟩, fun h => absurd h (by simp [zeroV])⟩, fun x hx => by simp [zeroV] at hx⟩, ?_, ?_⟩
    ·exact (zC8 HO.out HCL.out.symm (zGe hE)).above hab (by omega)
    ·exact RdAs.above hab (by omega) _ hE
theorem zV8 (p : Pt) (cs : List Value) (hnm : ∀ w', RdT1 w' p cs -> Calls Tryz.prog 85 #[.agg cs.toArray] w' fun e w'' => RetP w' (normT p) e w'' ∧ Below w'.heap.size w' w'') (zv : Value) (zs : List Zv) (cnt : Int) (w : World) (hr : RdT1 w p cs) (hz : RdZV w zv zs) (hzl : zs.length <= 1000000) :
  Calls Tryz.prog 61 #[.agg cs.toArray, zv, .int .i64 cnt] w fun e w' => e = .returned (.bool (mayT p (zs.map Zv.t) cnt)) ∧ Below w.heap.size w w' := by
 have HNM := hid hnm
 obtain ⟨r, hrr⟩ : ∃ r, r = nrm p false := ⟨_, rfl⟩
 have hnt : normT p = r.map fun a => .mk 5 0 0 zeroV (a.map fun x => .mk 4 0 0 zeroV x) := by rw [hrr]; rfl
 have HMT := hid (show mayT p (zs.map Zv.t) cnt = if cnt < 1 then false else mayR r (zs.map Zv.t) cnt by rw [hrr]; rfl)
 have HSM := hid (show ∀ a, r = some a -> SmallN a ∧ ∀ x ∈ a, ∀ t ∈ x, thing t from fun a ha => ⟨zI0 p false (hrr ▸ ha), zSx (hrr ▸ ha)⟩)
 have HRD := hid hr
 have HZ := hid hz
 obtain ⟨za, zc, rfl⟩ := zCs hz
 obtain ⟨zn, hzn⟩ : ∃ zn, zn = zs.length := ⟨_, rfl⟩
 rw [<- hzn] at HZ ⊢
 obtain ⟨k, c, o, v, l⟩ := p
 unfold RdT1 at hr
 obtain ⟨s, ls, css, rfl, hok, hls, hts⟩ := hr
 obtain ⟨sa, sc, hes⟩ := zAf hok.1
 obtain ⟨ea, ec, hel⟩ := zAk hls
 simp only at hes
 subst hes hel
 obtain ⟨m, hm⟩ : ∃ m, m = css.length := ⟨_, rfl⟩
 rw [<- hm] at HRD HNM ⊢
 obtain ⟨vu, vk, vn, vb⟩ := v
 unfold cellsP at HNM HRD ⊢
 simp only at HNM HRD ⊢
 clear hok hls hts hz hrr hzn hm hnm
 go_enter Tryz.func61, Tryz.ntmps61
 go_upto_region 1 with (fail)
 obtain ⟨W, hW⟩ : ∃ W : World, W = (((w.alloc (.cells #[.int .i64 k, .int .i64 c, .int .i64 o, .bool vu, .int .i64 vk, .int .i64 vn, .slice sa vb.length sc, .slice ea m ec] 65)).alloc (.cells #[.slice za zn zc] 37)).alloc (.cells #[.int .i64 cnt] 3)) := ⟨_, rfl⟩
 rw [<- hW]
 have h0 : W.heap[w.heap.size]? = some (.cells #[.int .i64 k, .int .i64 c, .int .i64 o, .bool vu, .int .i64 vk, .int .i64 vn, .slice sa vb.length sc, .slice ea m ec] 65 (0, 0)) := by rw [hW]; exact (heap_alloc_old _ _ (by simp; try omega)).trans ((heap_alloc_old _ _ (by simp)).trans (Qm w _))
 have h1 : W.heap[w.heap.size + 1]? = some (.cells #[.slice za zn zc] 37 (0, 0)) := by rw [hW]; exact zHl w _ _ _
 have h2 : W.heap[w.heap.size + 1 + 1]? = some (.cells #[.int .i64 cnt] 3 (0, 0)) := by rw [hW]; exact (zKv w _ _ _).2
 have HB := hid (show Below w.heap.size w W by rw [hW]; exact zDn w _ _ _)
 have HX1 := hid h1
 have HX2 := hid h2
 have d0 : W.cell? ⟨w.heap.size, 0, none⟩ = some (.int .i64 k) := by rw [Qj W _ 0 _ _ _ h0]; rfl
 have d1 : W.cell? ⟨w.heap.size, 1, none⟩ = some (.int .i64 c) := by rw [Qj W _ 1 _ _ _ h0]; rfl
 have d2 : W.cell? ⟨w.heap.size, 2, none⟩ = some (.int .i64 o) := by rw [Qj W _ 2 _ _ _ h0]; rfl
 have d3 : W.cell? ⟨w.heap.size, 3, none⟩ = some (.bool vu) := by rw [Qj W _ 3 _ _ _ h0]; rfl
 have d4 : W.cell? ⟨w.heap.size, 4, none⟩ = some (.int .i64 vk) := by rw [Qj W _ 4 _ _ _ h0]; rfl
 have d5 : W.cell? ⟨w.heap.size, 5, none⟩ = some (.int .i64 vn) := by rw [Qj W _ 5 _ _ _ h0]; rfl
 have d6 : W.cell? ⟨w.heap.size, 6, none⟩ = some (.slice sa vb.length sc) := by rw [Qj W _ 6 _ _ _ h0]; rfl
 have d7 : W.cell? ⟨w.heap.size, 7, none⟩ = some (.slice ea m ec) := by rw [Qj W _ 7 _ _ _ h0]; rfl
 have dc : W.cell? ⟨w.heap.size + 1 + 1, 0, none⟩ = some (.int .i64 cnt) := by rw [Qj W _ 0 _ _ _ h2]; rfl
 have HCALL := hid (HNM.out W (RdT1.kept HB.out _ HRD.out))
 rw [hnt] at HCALL
 clear hW h0 h1 h2 hnt HNM
 by_cases hcn : cnt < 1
 ·have hd : decide (cnt < 1) = true := by rw [decide_eq_true_eq]; exact hcn
  have HA := hid (show mayT (.mk k c o ⟨vu, vk, vn, vb⟩ l) (zs.map Zv.t) cnt = false by rw [HMT.out, if_pos hcn])
  clear hcn
  go_wp2_with fail
  go_ret
  exact ⟨by rw [HA.out] <;> rfl, HB.out⟩
 ·have hd : decide (cnt < 1) = false := by rw [decide_eq_false_iff_not]; exact hcn
  have HM2 := hid (show mayT (.mk k c o ⟨vu, vk, vn, vb⟩ l) (zs.map Zv.t) cnt = mayR r (zs.map Zv.t) cnt by rw [HMT.out, if_neg hcn])
  clear hcn HMT
  go_wp2_with fail
  refine HCALL.out.mono ?_
  rintro e W3 ⟨hret, hb3⟩
  have HB3 := hid (zAa HB.out hb3)
  have HY1 := hid ((hb3.block _ (Qa.1 HX1.out).1).trans HX1.out)
  have HY2 := hid ((hb3.block _ (Qa.1 HX2.out).1).trans HX2.out)
  clear hb3
  cases r with
  | none =>
   obtain rfl : e = .returned (.tuple #[.agg #[.int .i64 0, .int .i64 0, .int .i64 0, .bool false, .int .i64 0, .int .i64 0, .slice none 0 0, .slice none 0 0], .bool false]) := hret
   have HF := hid fun o => zAn HB3.out o
   go_wp2_with fail
   go_ret
   exact ⟨by rw [HM2.out] <;> rfl, HF.out _⟩
  | some a =>
   obtain ⟨cs', rfl, ha⟩ : ∃ cs' : List Value, e = .returned (.tuple #[.agg cs'.toArray, .bool true]) ∧ RdA1 W.heap.size W3 (.mk 5 0 0 zeroV (a.map fun x => .mk 4 0 0 zeroV x)) cs' := hret
   obtain ⟨sa1, sc1, ea1, css1, ec1, rfl, hs1, hr1⟩ := zQ4 ha
   rw [Qi] at hs1 ⊢
   unfold cellsP
   obtain ⟨hsm, hth⟩ := HSM.out a rfl
   have hbl := fun o => zAd W3 o
   have HCF := hid fun o => zLy (andP (zs.map Zv.t) cnt) (.pointer (some ⟨w.heap.size + 1, 0, none⟩)) (.pointer (some ⟨w.heap.size + 1 + 1, 0, none⟩)) (a.map fun x => .mk 4 0 0 zeroV x) (by rw [Qi]; have := hsm.1; omega) _ css1 (W3.alloc o) (hs1.rd.kept (hbl o)) (RdTs.kept (hbl o) _ (RdAs.rd _ hr1)) fun q cs w' hq hb hrq => by
    obtain ⟨x, hx, rfl⟩ := List.mem_map.1 hq
    have hbb := zAa (hbl o) hb
    refine zUk (.mk 4 0 0 zeroV x) (fun k c o v l e => by cases e; exact ⟨by have := hsm.2 x hx; omega, hth x hx⟩) cs (.slice za zn zc) zs cnt (w.heap.size + 1) (w.heap.size + 1 + 1) w' hrq (HZ.out.kept (zAa HB3.out hbb)) hzl ?_ ?_
    ·rw [Qj w' _ 0 _ _ _ ((hbb.block _ (Qa.1 HY1.out).1).trans HY1.out)]; rfl
    ·rw [Qj w' _ 0 _ _ _ ((hbb.block _ (Qa.1 HY2.out).1).trans HY2.out)]; rfl
   have HF := hid fun o => zAn HB3.out o
   obtain ⟨B, hB⟩ : ∃ B, B = (a.map fun x => Pt.mk 4 0 0 zeroV x).any (andP (zs.map Zv.t) cnt) := ⟨_, rfl⟩
   rw [<- hB] at HCF
   have HA := hid (show mayT (.mk k c o ⟨vu, vk, vn, vb⟩ l) (zs.map Zv.t) cnt = B by
    rw [HM2.out, hB]
    exact (zUj a (fun x => x.all fun t => posT t (zs.map Zv.t) cnt) _ (fun x => rfl)).symm)
   obtain ⟨na, hna⟩ : ∃ na, na = a.length := ⟨_, rfl⟩
   rw [<- hna] at HCF ⊢
   clear ha hs1 hr1 hsm hth hbl hB hna
   go_wp2_with fail
   refine (HCF.out _).mono ?_
   rintro e W5 ⟨rfl, hb5⟩
   have HG := hid (zAa (HF.out _) hb5)
   clear hb5
   go_wp2_with fail
   go_ret
   exact ⟨by rw [HA.out] <;> rfl, HG.out⟩
theorem zTf (c o : Int) (v : Vc) (hv : v.b.length <= 1000) (cs : List Value) (w : World) (hr : RdT1 w (.mk 2 c o v []) cs) :
  Calls Tryz.prog 85 #[.agg cs.toArray] w fun e w' => RetP w (normT (.mk 2 c o v [])) e w' ∧ Below w.heap.size w w' := by
 refine zU7 _ (zPh 2 c o v [] rfl (by simp)) (fun a ha => ?_) (by simp [nodesT, nodesL]) cs w hr
 unfold nrm at ha
 simp at ha
 subst ha
 refine ⟨fun x hx t ht => ?_, by simp, fun x hx => ?_⟩
 ·rw [Qb.1 hx] at ht
  rw [Qb.1 ht]
  unfold LeafN
  simp [depT, depL, cntT, cntL]
  try omega
 ·rw [Qb.1 hx]; simp
theorem zTg (c o : Int) (v : Vc) (hv : v.b.length <= 1000) (cs : List Value) (rv : Value) (r : List Vc) (w : World) (hp : RdT1 w (.mk 2 c o v []) cs) (hr : RdRow w rv r) (hrl : r.length <= 1000000) :
  Calls Tryz.prog 60 #[.agg cs.toArray, rv] w fun e w' => e = .returned (.int .i64 (evalT r (.mk 2 c o v []))) ∧ Below w.heap.size w w' :=
 zTe cs _ rv r w (zTd rv r hrl 2 c o v [] rfl) hp hr hrl (by simp [depT, depL]) (by simp [cntT, cntL]; omega)
theorem zOp (c o : Int) (v : Vc) (hv : v.b.length <= 1000) (cs : List Value) (zv : Value) (zs : List Zv) (cnt : Int) (w : World) (hr : RdT1 w (.mk 2 c o v []) cs) (hz : RdZV w zv zs) (hzl : zs.length <= 1000000) :
  Calls Tryz.prog 61 #[.agg cs.toArray, zv, .int .i64 cnt] w fun e w' => e = .returned (.bool (mayT (.mk 2 c o v []) (zs.map Zv.t) cnt)) ∧ Below w.heap.size w w' :=
 zV8 _ cs (fun w' h => zTf c o v hv cs w' h) zv zs cnt w hr hz hzl
end Go.Proofs.YtmpgnjhgegbdkaaGreat
