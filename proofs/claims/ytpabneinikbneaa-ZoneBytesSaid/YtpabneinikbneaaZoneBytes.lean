/-
  The walk of ZoneBytes.
-/
import Derived.Test.YtpabneinikbneaaZbm
import Derived.Test.YtpabneinikbneaaRow9
import Derived.Test.YtpabneinikbneaaAwake9
namespace Go.Proofs.Ytpabneinikbneaa
set_option linter.unusedVariables false
set_option linter.unusedSimpArgs false
open Go.RowKit


def colsB : List Co := [⟨⟨#[107, 101, 121]⟩, 1, false⟩, ⟨⟨#[97]⟩, 2, false⟩]
def rowB (i : Nat) (b : List Nat) : List Vc := [⟨false, 1, i, []⟩, bV b]
def rowsB (l : List (List Nat)) : List (List Vc) := l.mapIdx rowB
theorem rdS_lies (w : World) (LB : Nat) (cs : Array Value) (E : TypeId) (sz n : Nat) (css : List (List Value)) (hh : w.heap[LB]? = some (.cells cs E (0, 0))) (h : cs.toList = css.flatten) (hl : ∀ t ∈ css, t.length = sz) (hn : n = css.length) : RdS w sz (.slice (some ⟨LB, 0, none⟩) n n) css := by
  subst hn
  refine ⟨some ⟨LB, 0, none⟩, css.length, rfl, ⟨(fun h => by cases h), Nat.le_refl _⟩, fun k t ht => ⟨LB, 0, rfl, fun j u hu => ?_⟩⟩
  rw [cell_of_row _ LB _ _ _ _ hh, Nat.zero_add, ← Array.getElem?_toList, h]
  exact flatten_at css sz hl k t j u ht hu
theorem both_mem {α : Type} {P : α → Prop} {a b : α} (h : P a) (k : P b) : ∀ t ∈ [a, b], P t := fun t ht => by
  simp only [List.mem_cons, List.not_mem_nil, or_false] at ht
  rcases ht with rfl | rfl
  · exact h
  · exact k
theorem rowsB_one (l : List (List Nat)) : (rowsB l).map (fun r => r[1]?) = l.map (fun b => some (bV b)) := by
  unfold rowsB
  refine List.ext_getElem? fun i => ?_
  rw [List.getElem?_map, List.getElem?_mapIdx, List.getElem?_map]
  cases l[i]? with
  | none => rfl
  | some b => rfl
theorem hl_lit {a b c : Bool} (h : a = b) (k : b = c) : a = c := h.trans k
theorem rowsB_mem {l : List (List Nat)} {x : List Vc} (h : x ∈ rowsB l) : ∃ i b, b ∈ l ∧ x = rowB i b := by
  unfold rowsB at h
  obtain ⟨i, hi, rfl⟩ := List.mem_iff_getElem.1 h
  rw [List.length_mapIdx] at hi
  exact ⟨i, l[i], List.getElem_mem _, by rw [List.getElem_mapIdx]⟩
/-- Rows of one's own, that stay whatever becomes of their slices' block, and of another one. -/
def OwnB (XB B : Nat) (w : World) (v : Value) (L : List (List (Vc × Value))) : Prop :=
  ∃ sls, w.ownsRow B 48 1 v L.length sls ∧ sls.length = L.length ∧ ∀ (i : Nat) (s : Value) (l : List (Vc × Value)), sls[i]? = some s → L[i]? = some l → Free (fun b => b = XB ∨ v.ownBlock = some b) w (fun w' => RdP w' s l)

set_option maxRecDepth 100000 in
set_option maxHeartbeats 32000000 in
theorem walk_ZoneBytes (a0 : Option Addr) (len0 cap0 : Nat) (bss : List (List Nat)) (a1 : Option Addr) (len1 cap1 : Nat) (z1 : List Int) (w : World) (w0 : bss.length = len0 ∧ RdBs w (.slice a0 len0 cap0) bss) (w1 : IsRow .u8 w a1 len1 cap1 z1) :
    Calls Try.prog 9 #[.slice a0 len0 cap0, .slice a1 len1 cap1] w fun e w' => e = .returned (.bool true) ∧ Below w.heap.size w w' := by
  obtain ⟨hbl, hbs⟩ := w0
  obtain ⟨bb, hbbl, hbb, hbb2⟩ := isRow_u8 w1
  have HBL := Lib.hid hbl
  have HBS := Lib.hid hbs
  have HBBL := Lib.hid hbbl
  have HBB := Lib.hid (show OkV w (bV bb, .slice a1 len1 cap1) from ⟨hbb, hbb2⟩)
  clear hbl hbs hbbl hbb hbb2 w1
  have HB3 := Lib.hid (below3 w (.cells #[.slice a1 len1 cap1] 26) (.cells #[.string ⟨#[107, 101, 121]⟩, .int .i64 1, .bool false, .string ⟨#[97]⟩, .int .i64 2, .bool false] 62) (.cells #[.slice (some ⟨w.heap.size + 1, 0, none⟩) 2 2] 24))
  have HX := Lib.hid (heaps3 w (.cells #[.slice a1 len1 cap1] 26) (.cells #[.string ⟨#[107, 101, 121]⟩, .int .i64 1, .bool false, .string ⟨#[97]⟩, .int .i64 2, .bool false] 62) (.cells #[.slice (some ⟨w.heap.size + 1, 0, none⟩) 2 2] 24))
  have HX0 := Lib.hid (show (((w.alloc (.cells #[.slice a1 len1 cap1] 26)).alloc (.cells #[.string ⟨#[107, 101, 121]⟩, .int .i64 1, .bool false, .string ⟨#[97]⟩, .int .i64 2, .bool false] 62)).alloc (.cells #[.slice (some ⟨w.heap.size + 1, 0, none⟩) 2 2] 24)).heap[w.heap.size]? = some (.cells #[.slice a1 len1 cap1] 26 (0, 0)) from (heap_alloc_old _ _ (by simp; omega)).trans ((heap_alloc_old _ _ (by simp)).trans (heap_alloc_new w _)))
  go_enter Try.func9, Try.ntmps9
  go_upto_region 2 with (fail)
  obtain ⟨W1, hW⟩ : ∃ W1 : World, W1 = ((w.alloc (.cells #[.slice a1 len1 cap1] 26)).alloc (.cells #[.string ⟨#[107, 101, 121]⟩, .int .i64 1, .bool false, .string ⟨#[97]⟩, .int .i64 2, .bool false] 62)).alloc (.cells #[.slice (some ⟨w.heap.size + 1, 0, none⟩) 2 2] 24) := ⟨_, rfl⟩
  rw [← hW] at HB3 HX HX0 ⊢
  have HS1 := Lib.hid (show W1.heap.size = w.heap.size + 3 by rw [hW]; simp)
  clear hW
  obtain ⟨BB, hBB⟩ : ∃ BB, BB = w.heap.size := ⟨_, rfl⟩
  rw [← hBB] at HX HX0 HS1 ⊢
  have HBBe := Lib.hid hBB
  clear hBB
  have cb0 : W1.cell? ⟨BB, 0, none⟩ = some (.slice a1 len1 cap1) := by rw [cell_of_row W1 BB 0 _ _ _ HX0.out]; rfl
  have HAW := Lib.hid (fun W => awake9_any W)
  by_cases h1 : 64 < len1
  · have h1i : (64 : Int) < (len1 : Int) := by omega
    have h1d : decide (64 < len1) = true := by rw [decide_eq_true_eq]; exact h1
    have h1e : decide ((64 : Int) < (len1 : Int)) = true := by rw [decide_eq_true_eq]; exact h1i
    go_wp2_with fail
    refine (HAW.out _).mono ?_
    rintro e w2 ⟨rfl, hb2⟩
    have HF := Lib.hid (below_then HB3.out hb2)
    clear hb2 cb0
    go_wp2_with fail
    go_ret
    exact ⟨rfl, HF.out⟩
  have h1d : decide (64 < len1) = false := by rw [decide_eq_false_iff_not]; exact h1
  have h1e : decide ((64 : Int) < (len1 : Int)) = false := by rw [decide_eq_false_iff_not]; omega
  by_cases h2 : 30 < len0
  · have h2i : (30 : Int) < (len0 : Int) := by omega
    have h2d : decide (30 < len0) = true := by rw [decide_eq_true_eq]; exact h2
    have h2e : decide ((30 : Int) < (len0 : Int)) = true := by rw [decide_eq_true_eq]; exact h2i
    go_wp2_with fail
    refine (HAW.out _).mono ?_
    rintro e w2 ⟨rfl, hb2⟩
    have HF := Lib.hid (below_then HB3.out hb2)
    clear hb2 cb0
    go_wp2_with fail
    go_ret
    exact ⟨rfl, HF.out⟩
  have h2d : decide (30 < len0) = false := by rw [decide_eq_false_iff_not]; exact h2
  have h2e : decide ((30 : Int) < (len0 : Int)) = false := by rw [decide_eq_false_iff_not]; omega
  go_wp2_with fail
  clear cb0
  obtain ⟨W, hW⟩ : ∃ W : World, W = W1.alloc (.cells #[.slice none 0 0] 52) := ⟨_, rfl⟩
  rw [← hW]
  have HSW := Lib.hid (show W.heap.size = BB + 4 by rw [hW]; have := HS1.out; simp; omega)
  have HBW := Lib.hid (show Below w.heap.size w W by rw [hW]; exact below_lay HB3.out _)
  have HXB := Lib.hid (show W.heap[W1.heap.size]? = some (.cells #[.slice none 0 0] 52 (0, 0)) by rw [hW]; exact heap_alloc_new W1 _)
  have HX1 := Lib.hid (show W.heap[BB]? = some (.cells #[.slice a1 len1 cap1] 26 (0, 0)) by rw [hW]; exact (heap_alloc_old W1 _ (by have := HS1.out; omega)).trans HX0.out)
  have HX2 := Lib.hid (show W.heap[BB + 1]? = some (.cells #[.string ⟨#[107, 101, 121]⟩, .int .i64 1, .bool false, .string ⟨#[97]⟩, .int .i64 2, .bool false] 62 (0, 0)) by rw [hW]; exact (heap_alloc_old W1 _ (by have := HS1.out; omega)).trans HX.out.1)
  have HX3 := Lib.hid (show W.heap[BB + 1 + 1]? = some (.cells #[.slice (some ⟨BB + 1, 0, none⟩) 2 2] 24 (0, 0)) by rw [hW]; exact (heap_alloc_old W1 _ (by have := HS1.out; omega)).trans (by have := HX.out.2; rw [HBBe.out]; rw [HBBe.out] at this; exact this))
  obtain ⟨XB, hXB⟩ : ∃ XB, XB = W1.heap.size := ⟨_, rfl⟩
  rw [← hXB] at HXB ⊢
  have HXE := Lib.hid (show XB = BB + 3 by have := HS1.out; omega)
  clear hW hXB HX HX0 HB3 HS1
  go_loopw [7, 8, 9, 10, 29] (fun lo hi x y i wr => ∃ (q : Nat) (vo : Option Addr) (vc : Nat) (L : List (List (Vc × Value))), q ≤ len0 ∧ i = .int .i64 (q : Int) ∧ lo = .string (txtOf ((minO (bss.take q)).getD [])) ∧ hi = .string (txtOf ((maxO (bss.take q)).getD [])) ∧ wr.heap[XB]? = some (.cells #[.slice vo q vc] 52 (0, 0)) ∧ L.length = q ∧ L.map (fun x => x.map Prod.fst) = rowsB (bss.take q) ∧ (∀ b ∈ bss.take q, b.length ≤ 64 ∧ ∀ x ∈ b, x < 256) ∧ OwnB XB (BB + 4) wr (.slice vo q vc) L ∧ Agree (fun b => b = XB) W wr) (fun _ _ _ _ i _ => len0 - (intOf i).toNat)
  case atStart => exact ⟨0, none, 0, [], Nat.zero_le _, rfl, rfl, rfl, HXB.out, rfl, by simp [rowsB], fun b hb => by simp at hb, ⟨[], World.ownsRow_nil .., rfl, fun i s l h => by simp at h⟩, Agree.refl _ _⟩
  case round =>
    obtain ⟨q, vo, vc, L, hq, rfl, rfl, rfl, hx, hll, hlm, hsm, hown, hag⟩ := hrel
    obtain ⟨wo, rfl⟩ : ∃ wo : World, wo = wr := ⟨_, rfl⟩
    have HXR := Lib.hid hx
    have HLL := Lib.hid hll
    have HLM := Lib.hid hlm
    have HSM := Lib.hid hsm
    have HOW := Lib.hid hown
    have HAG := Lib.hid hag
    have HBO := Lib.hid (show Below w.heap.size w wo from HBW.out.trans (hag.below (fun i hi h => by have := HXE.out; have := HBBe.out; omega) (by have := HSW.out; have := HBBe.out; omega)))
    clear hll hlm hsm hown hag
    by_cases hlt : q < len0
    · obtain ⟨r, hr⟩ : ∃ r, bss[q]? = some r := ⟨_, List.getElem?_eq_getElem (by rw [HBL.out]; exact hlt)⟩
      have HTK := Lib.hid (show bss.take (q + 1) = bss.take q ++ [r] by rw [List.take_add_one, hr]; rfl)
      obtain ⟨b, off, sa, sc, rfl, hcell, hrd, hr256⟩ := (HBS.out.kept HBO.out).at hr
      have HRD := Lib.hid (show Rd wo (.slice sa r.length sc) (r.map u8v) from hrd)
      have HR256 := Lib.hid hr256
      have HR0 := Lib.hid (show Rd w (.slice sa r.length sc) (r.map u8v) from by
        obtain ⟨b', off', sa', sc', e1, h2, h3, _⟩ := HBS.out.at hr
        cases e1
        have h4 := (HBO.out.cell (World.block_lt_of_cell? _ _ h2)).trans h2
        rw [hcell] at h4
        cases h4
        exact h3)
      obtain ⟨rl, hrl⟩ : ∃ rl, rl = r.length := ⟨_, rfl⟩
      rw [← hrl] at hcell HRD HR0
      have HRL := Lib.hid hrl
      have hqi : (q : Int) < (len0 : Int) := by omega
      have hq0 : (0 : Int) ≤ (q : Int) := by omega
      clear hr hrd hr256 hrl
      by_cases h64 : 64 < rl
      · have h64i : (64 : Int) < (rl : Int) := by omega
        have h64d : decide (64 < rl) = true := by rw [decide_eq_true_eq]; exact h64
        have h64e : decide ((64 : Int) < (rl : Int)) = true := by rw [decide_eq_true_eq]; exact h64i
        go_wp2_with fail
        refine (HAW.out _).mono ?_
        rintro e w2 ⟨rfl, hb2⟩
        have HF := Lib.hid (below_then HBO.out hb2)
        clear hb2 hcell
        go_wp2_with fail
        go_ret
        exact ⟨rfl, HF.out⟩
      have h64d : decide (64 < rl) = false := by rw [decide_eq_false_iff_not]; exact h64
      have h64e : decide ((64 : Int) < (rl : Int)) = false := by rw [decide_eq_false_iff_not]; omega
      have hxc : wo.cell? ⟨XB, 0, none⟩ = some (.slice vo q vc) := by rw [cell_of_row wo XB 0 _ _ _ HXR.out]; rfl
      go_upto_region 11 with (fail)
      have HQC := Lib.hid (show Agree (fun b => b = XB) W wo from HAG.out)
      obtain ⟨sls, ho1, ho2, ho3⟩ := HOW.out
      rw [HLL.out] at ho1
      have HO1 := Lib.hid ho1
      have HO2 := Lib.hid ho2
      have HO3 := Lib.hid ho3
      have HSO := Lib.hid (show BB + 4 ≤ wo.heap.size by have := HAG.out.size; rw [HSW.out] at this; exact this)
      have HRDL := Lib.hid (rdS_lit (wo.alloc (.cells #[.bool false, .int .i64 1, .int .i64 (q : Int), .slice none 0 0, .bool false, .int .i64 2, .int .i64 0, .slice sa rl sc] 28)) #[.slice (some ⟨wo.heap.size, 0, none⟩) 2 2] 48 1 rfl)
      have HON := Lib.hid (show Ones 1 [[Value.slice (some ⟨wo.heap.size, 0, none⟩) 2 2]] from fun t ht => by rw [List.mem_singleton.1 ht]; exact ⟨rfl, fun u hu => by rw [List.mem_singleton.1 hu]; rfl⟩)
      have HS2 := Lib.hid (show (wo.alloc (.cells #[.bool false, .int .i64 1, .int .i64 (q : Int), .slice none 0 0, .bool false, .int .i64 2, .int .i64 0, .slice sa rl sc] 28)).heap.size = wo.heap.size + 1 ∧ ((wo.alloc (.cells #[.bool false, .int .i64 1, .int .i64 (q : Int), .slice none 0 0, .bool false, .int .i64 2, .int .i64 0, .slice sa rl sc] 28)).alloc (.cells #[.slice (some ⟨wo.heap.size, 0, none⟩) 2 2] 48)).heap.size = wo.heap.size + 2 by simp)
      have HOF := Lib.hid (show ∀ i, i < BB + 4 → (Value.slice vo q vc).ownBlock ≠ some i from fun i h e => by have := own_base HO1.out i e; omega)
      have HOL := Lib.hid (own_lt HO1.out)
      have hxc2 := fun o => Lib.cell?_alloc_some (W := wo) o hxc
      clear ho1 ho2 ho3 h64d h64e
      go_upto_region 12 with (at_builtin; go_must (refine wpList_append_k elmRows rfl _ _ rfl (BB + 4) (.slice vo q vc) q sls rfl ((HO1.out.alloc _).alloc _) _ [[.slice (some ⟨wo.heap.size, 0, none⟩) 2 2]] rfl (by have h := HRDL.out; rw [HS2.out.1] at h; exact h) HON.out (by simp; omega) (by have := HS2.out.2; have := HSO.out; omega) (q + 1) rfl ?_); intro ao4 cap4 w4 hown4 hgrow4 hnew4; have HO4 := Lib.hid hown4; have HG4 : Hid (World.grownBy _ w4 (Value.slice vo q vc).ownBlock) := Lib.hid hgrow4; have HN4 : Hid (∀ g, (Value.slice ao4 (q + 1) cap4).ownBlock = some g → (Value.slice vo q vc).ownBlock = some g ∨ g = _) := Lib.hid hnew4; have hp4 : w4.heap[XB]? = some (.cells #[.slice vo q vc] 52 (0, 0)) := (HG4.out.block XB (by have := HS2.out.2; have := HSO.out; have := HXE.out; omega) (fun e => HOF.out XB (by have := HXE.out; omega) e.symm)).trans ((heap_alloc_old _ _ (by have := HS2.out.1; have := HSO.out; have := HXE.out; omega)).trans ((heap_alloc_old wo _ (by have := HSO.out; have := HXE.out; omega)).trans HXR.out)); have HP4 := Lib.hid hp4; have hc4 : w4.cell? ⟨XB, 0, none⟩ = some (.slice vo q vc) := (by rw [cell_of_row w4 XB 0 _ _ _ hp4]; rfl); have hf4 : w4.frozen? ⟨XB, 0, none⟩ = false := frozen_of_row w4 XB 0 _ _ hp4; clear hown4 hgrow4 hnew4 hp4)
      obtain ⟨W5, hW5⟩ : ∃ W5 : World, W5 = w4.setCell ⟨XB, 0, none⟩ (.slice ao4 (q + 1) cap4) := ⟨_, rfl⟩
      rw [← hW5]
      have hs45 : W5.heap.size = w4.heap.size := by rw [hW5]; simp [World.setCell]
      have hagx : Agree (fun b => b = XB ∨ (Value.slice vo q vc).ownBlock = some b) ((wo.alloc (.cells #[.bool false, .int .i64 1, .int .i64 (q : Int), .slice none 0 0, .bool false, .int .i64 2, .int .i64 0, .slice sa rl sc] 28)).alloc (.cells #[.slice (some ⟨wo.heap.size, 0, none⟩) 2 2] 48)) W5 := by
        rw [hW5]
        exact ((Agree.refl _ _).thenGrown HG4.out fun i _ h => .inr h).set ⟨XB, 0, none⟩ _ (.inl (.inl rfl))
      have hag5 : Agree (fun b => b = XB ∨ (Value.slice vo q vc).ownBlock = some b) wo W5 := (((Agree.refl _ wo).alloc (.cells #[.bool false, .int .i64 1, .int .i64 (q : Int), .slice none 0 0, .bool false, .int .i64 2, .int .i64 0, .slice sa rl sc] 28)).alloc (.cells #[.slice (some ⟨wo.heap.size, 0, none⟩) 2 2] 48)).trans hagx
      have hx5 : W5.heap[XB]? = some (.cells #[.slice ao4 (q + 1) cap4] 52 (0, 0)) := by rw [hW5]; exact heap_setCell_same w4 XB 0 _ _ _ HP4.out
      have hnb : ∀ b, (Value.slice ao4 (q + 1) cap4).ownBlock = some b → (Value.slice vo q vc).ownBlock = some b ∨ b = wo.heap.size + 2 := fun b h => (HN4.out b h).imp id fun h => by rw [h]; exact HS2.out.2
      have hnp : ∀ b, (Value.slice ao4 (q + 1) cap4).ownBlock = some b → BB + 4 ≤ b := fun b h => own_base HO4.out b h
      have hrow5 : W5.heap[wo.heap.size]? = some (.cells #[.bool false, .int .i64 1, .int .i64 (q : Int), .slice none 0 0, .bool false, .int .i64 2, .int .i64 0, .slice sa rl sc] 28 (0, 0)) := by
        have h1 := hagx.block wo.heap.size (by have := HS2.out.2; omega) (fun h => h.elim (fun h => by have := HSO.out; have := HXE.out; omega) (fun h => by have := HOL.out _ h; omega))
        exact h1.trans ((heap_alloc_old _ _ (by have := HS2.out.1; omega)).trans (heap_alloc_new wo _))
      have HAG5 := Lib.hid (show Agree (fun b => b = XB) W W5 from HAG.out.then hag5 fun i hi h => h.elim id fun h => by have := own_base HO1.out i h; rw [HSW.out] at hi; omega)
      have HB5 := Lib.hid (show Below w.heap.size w W5 from HBW.out.trans (HAG5.out.below (fun i hi h => by have := HXE.out; have := HBBe.out; omega) (by have := HSW.out; have := HBBe.out; omega)))
      have HREST := Lib.hid (show W5.heap[XB]? = some (.cells #[.slice ao4 (q + 1) cap4] 52 (0, 0)) ∧ (L ++ [[((⟨false, 1, (q : Int), []⟩ : Vc), Value.slice none 0 0), (bV r, .slice sa rl sc)]]).length = q + 1 ∧ (L ++ [[((⟨false, 1, (q : Int), []⟩ : Vc), Value.slice none 0 0), (bV r, .slice sa rl sc)]]).map (fun x => x.map Prod.fst) = rowsB (bss.take (q + 1)) ∧ (∀ b ∈ bss.take (q + 1), b.length ≤ 64 ∧ ∀ x ∈ b, x < 256) ∧ OwnB XB (BB + 4) W5 (.slice ao4 (q + 1) cap4) (L ++ [[((⟨false, 1, (q : Int), []⟩ : Vc), Value.slice none 0 0), (bV r, .slice sa rl sc)]]) ∧ Agree (fun b => b = XB) W W5 from by
        refine ⟨hx5, by rw [List.length_append, HLL.out]; rfl, ?_, ?_, ?_, HAG5.out⟩
        · rw [List.map_append, HLM.out, HTK.out]
          unfold rowsB
          rw [List.mapIdx_append]
          congr 1
          have hl : (bss.take q).length = q := by rw [List.length_take, HBL.out]; omega
          rw [hl]
          simp [rowB]
        · intro b hb
          rw [HTK.out, List.mem_append, List.mem_singleton] at hb
          rcases hb with hb | rfl
          · exact HSM.out b hb
          · exact ⟨by have := HRL.out; omega, HR256.out⟩
        · refine ⟨sls ++ [.slice (some ⟨wo.heap.size, 0, none⟩) 2 2], ?_, by rw [List.length_append, List.length_append, HO2.out]; rfl, fun i t lt hi hli => ?_⟩
          · rw [List.length_append, HLL.out]
            have h1 := HO4.out
            have h2 := ownsRow_agree h1 (show Agree (fun b => b = XB) w4 W5 by rw [hW5]; exact agree_set _ w4 ⟨XB, 0, none⟩ _ rfl) (fun b hb h => by have := hnp b hb; have := HXE.out; omega)
            exact h2
          · by_cases hlt2 : i < sls.length
            · rw [List.getElem?_append_left hlt2] at hi
              rw [List.getElem?_append_left (by rw [← HO2.out]; exact hlt2)] at hli
              refine (HO3.out i t lt hi hli).to hag5 (fun b _ h => h) fun b hb h => ?_
              rcases h with h | h
              · exact .inl h
              · exact .inr ((hnb b h).elim id fun h => by omega)
            · have hi1 : i = sls.length := by
                have := (List.getElem?_eq_some_iff.1 hi).1
                rw [List.length_append] at this
                simp at this
                omega
              rw [List.getElem?_append_right (by omega), hi1, Nat.sub_self] at hi
              rw [List.getElem?_append_right (by rw [← HO2.out]; omega), ← HO2.out, hi1, Nat.sub_self] at hli
              cases hi
              cases hli
              intro w' ha
              have hw' : w'.heap[wo.heap.size]? = some (.cells #[.bool false, .int .i64 1, .int .i64 (q : Int), .slice none 0 0, .bool false, .int .i64 2, .int .i64 0, .slice sa rl sc] 28 (0, 0)) :=
                (ha.block wo.heap.size (Array.getElem?_eq_some_iff.1 hrow5).1 (fun h => h.elim (fun h => by have := HSO.out; have := HXE.out; omega) (fun h => (hnb _ h).elim (fun h => by have := HOL.out _ h; omega) (fun h => by omega)))).trans hrow5
              refine ⟨rdS_lies w' wo.heap.size _ _ 4 2 _ hw' rfl (fun t ht => by obtain ⟨x, _, rfl⟩ := List.mem_map.1 ht; rfl) rfl, both_mem ⟨Rd.nil w', fun x h => by cases h⟩ ⟨?_, HR256.out⟩⟩
              exact HR0.out.kept (HB5.out.trans (ha.below (fun i hi h => h.elim (fun h => by have := HXE.out; have := HBBe.out; omega) (fun h => by have := hnp i h; have := HBBe.out; omega)) HB5.out.size)))
      have HRD5 := Lib.hid (HR0.out.kept HB5.out)
      clear hW5 hs45 hagx hag5 hx5 hnb hnp hrow5 hxc hxc2 hc4 hf4 hcell
      have HMN := Lib.hid (show minO (bss.take (q + 1)) = minS (minO (bss.take q)) r by rw [HTK.out, minO_snoc])
      have HMX := Lib.hid (show maxO (bss.take (q + 1)) = maxS (maxO (bss.take q)) r by rw [HTK.out, maxO_snoc])
      have hcv := run_txt (P := Try.prog) W5 26 9 5 Try.underlying26 Try.underlying5 Try.underlying9 (v := .slice sa rl sc) (bs := r) HRD5.out HR256.out
      by_cases hq0' : q = 0
      · have hqz : ((q : Int) == 0) = true := by rw [beq_iff_eq]; omega
        have e1 : (minO (bss.take (q + 1))).getD [] = r := by rw [HMN.out, hq0']; rfl
        have e2 : (maxO (bss.take (q + 1))).getD [] = r := by rw [HMX.out, hq0']; rfl
        have HE1 := Lib.hid e1
        have HE2 := Lib.hid e2
        clear e1 e2 hq0'
        go_wp2_with fail
        go_roundw
        case rel => exact ⟨q + 1, ao4, cap4, _, by omega, by go_num, by rw [HE1.out], by rw [HE2.out], HREST.out⟩
        case measure => simp [intOf]; omega
      · have hqz : ((q : Int) == 0) = false := by rw [beq_eq_false_iff_ne]; omega
        obtain ⟨m, M, em, eM, hmi, hMi⟩ := minO_some (l := bss.take q) (by intro h; have := congrArg List.length h; rw [List.length_take, HBL.out] at this; simp at this; omega)
        have hm256 := (HSM.out m hmi).2
        have hM256 := (HSM.out M hMi).2
        have e1 : (minO (bss.take (q + 1))).getD [] = if cmpB r m < 0 then r else m := by rw [HMN.out, em]; unfold minS; simp only; split <;> rfl
        have e2 : (maxO (bss.take (q + 1))).getD [] = if 0 < cmpB r M then r else M := by rw [HMX.out, eM]; unfold maxS; simp only; split <;> rfl
        have hl1 := bytesLess_cmp r m HR256.out hm256
        have hl2 := bytesLess_cmp r M HR256.out hM256
        have hl3 := txtOf_beq HR256.out hM256
        rw [← txtOf_toList, ← txtOf_toList] at hl1 hl2
        have hcm : Cmp3 cmpB := lexL_ok cmpN_ok
        have htri := hcm.tri r M
        have heq3 : (r == M) = decide (cmpB r M = 0) := by rw [Bool.eq_iff_iff, beq_iff_eq, decide_eq_true_eq]; exact (hcm.eq r M).symm
        rw [heq3] at hl3
        have HE1 := Lib.hid e1
        have HE2 := Lib.hid e2
        rw [em, eM]
        simp only [Option.getD_some]
        clear e1 e2 hmi hMi hm256 hM256 hcm em eM hq0' heq3
        by_cases c1 : cmpB r m < 0 <;> rcases htri with c2 | c2 | c2
        all_goals
          first | rw [decide_eq_true c1] at hl1 | rw [decide_eq_false c1] at hl1
          first | rw [decide_eq_true (show cmpB r M < 0 by omega)] at hl2 | rw [decide_eq_false (show ¬ cmpB r M < 0 by omega)] at hl2
          first | rw [decide_eq_true (show cmpB r M = 0 by omega)] at hl3 | rw [decide_eq_false (show ¬ cmpB r M = 0 by omega)] at hl3
          have HC1 := Lib.hid c1
          have HC2 := Lib.hid c2
          clear c1 c2
          go_wp2_with fail
          go_roundw
          case rel =>
            have h1 := HE1.out
            have h2 := HE2.out
            first | rw [if_pos HC1.out] at h1 | rw [if_neg HC1.out] at h1
            have h3 := HC2.out
            first | rw [if_pos (show 0 < cmpB r M by omega)] at h2 | rw [if_neg (show ¬ 0 < cmpB r M by omega)] at h2
            exact ⟨q + 1, ao4, cap4, _, by omega, by go_num, by rw [h1], by rw [h2], HREST.out⟩
          case measure => simp [intOf]; omega
    · have hqn : q = len0 := by omega
      subst hqn
      have htk : bss.take q = bss := List.take_of_length_le (by rw [HBL.out]; exact Nat.le_refl _)
      have hqi2 : ¬ (q : Int) < (q : Int) := by omega
      have hlm := HLM.out
      have hsm := HSM.out
      rw [htk] at hlm hsm
      have hzone := zoneB (rowsB_one bss)
      rw [← hlm] at hzone
      have hsmall : ∀ l ∈ L, l.length ≤ 1000 ∧ ∀ t ∈ l, t.1.b.length ≤ 1000000 ∧ ∀ x ∈ t.1.b, x < 256 := fun l hl => by
        have h1 : l.map Prod.fst ∈ rowsB bss := by rw [← hlm]; exact List.mem_map.2 ⟨l, hl, rfl⟩
        obtain ⟨i, b, hb, he⟩ := rowsB_mem h1
        have hbb := hsm b hb
        refine ⟨by have := congrArg List.length he; rw [List.length_map] at this; rw [this]; simp [rowB], fun t ht => ?_⟩
        have ht2 : t.1 ∈ rowB i b := by rw [← he]; exact List.mem_map.2 ⟨t, ht, rfl⟩
        unfold rowB at ht2
        revert ht2
        generalize t.1 = t1
        intro ht2
        refine both_mem (P := fun v : Vc => v.b.length ≤ 1000000 ∧ ∀ x ∈ v.b, x < 256) ⟨by simp, fun x h => by cases h⟩ ⟨by have := hbb.1; show b.length ≤ _; omega, hbb.2⟩ t1 ht2
      have hrr : RdRs wo (.slice vo q vc) L := by
        obtain ⟨sls, ho1, ho2, ho3⟩ := HOW.out
        rw [← HLL.out]
        exact ⟨sls, by rw [HLL.out] at ho1 ⊢; exact Rd.of_owns ho1, ho2, fun i s l h1 h2 => (ho3 i s l h1 h2).now⟩
      have hx2 := (HAG.out.block (BB + 1) (by have := HSW.out; omega) (by have := HXE.out; omega)).trans HX2.out
      have hx3 := (HAG.out.block (BB + 1 + 1) (by have := HSW.out; omega) (by have := HXE.out; omega)).trans HX3.out
      have hx1 := (HAG.out.block BB (by have := HSW.out; omega) (by have := HXE.out; omega)).trans HX1.out
      have HXB1 := Lib.hid hx1
      have hsc : RdC wo (.slice (some ⟨BB + 1, 0, none⟩) 2 2) colsB := rdS_lies wo (BB + 1) _ _ 3 2 (colsB.map Co.cells) hx2 rfl (fun t ht => by obtain ⟨x, _, rfl⟩ := List.mem_map.1 ht; rfl) rfl
      have HC := Lib.hid (zoneOf_any colsB (by decide) L (by rw [HLL.out]; omega) _ _ wo hsc hrr hsmall)
      have HZN := Lib.hid hzone
      have cs0 : wo.cell? ⟨BB + 1 + 1, 0, none⟩ = some (.slice (some ⟨BB + 1, 0, none⟩) 2 2) := by rw [cell_of_row wo (BB + 1 + 1) 0 _ _ _ hx3]; rfl
      have cx0 : wo.cell? ⟨XB, 0, none⟩ = some (.slice vo q vc) := by rw [cell_of_row wo XB 0 _ _ _ HXR.out]; rfl
      clear hlt
      clear hlm hsm hzone hsmall hrr hx1 hx2 hx3 hsc htk
      go_wp2_with fail
      refine HC.out.mono ?_
      rintro e W6 ⟨zv, zs, rfl, hzt, hza, hb6⟩
      have hzl : zs.length = 2 := by have := congrArg List.length hzt; rw [List.length_map] at this; rw [this]; rfl
      obtain ⟨y0, y1, rfl⟩ : ∃ y0 y1, zs = [y0, y1] := by
        match zs, hzl with
        | [a, b], _ => exact ⟨a, b, rfl⟩
      have hzv : RdZV W6 zv [y0, y1] := ⟨hza.1.rd, fun z hz => (hza.2 z hz).ok⟩
      obtain ⟨za, zc, rfl⟩ := rdZV_shape hzv
      have hy1 : y1.t = ⟨0, vO (minO bss), vO (maxO bss)⟩ := by
        rw [HZN.out.symm.trans rfl]
        have h1 : [y0.t, y1.t] = [zoneT 1 0 (L.map fun l => l.map Prod.fst), zoneT 2 1 (L.map fun l => l.map Prod.fst)] := hzt
        rw [List.cons.injEq, List.cons.injEq] at h1
        exact h1.2.1
      have HZT := Lib.hid (show [y0, y1].map Zv.t = [y0.t, ⟨0, vO (minO bss), vO (maxO bss)⟩] by rw [← hy1]; rfl)
      have HY1 := Lib.hid hy1
      have HZV := Lib.hid hzv
      have HB6 := Lib.hid (below_then HBO.out hb6)
      have HXB6 := Lib.hid ((hb6.block BB (Array.getElem?_eq_some_iff.1 HXB1.out).1).trans HXB1.out)
      have HXR6 := Lib.hid ((hb6.block XB (Array.getElem?_eq_some_iff.1 HXR.out).1).trans HXR.out)
      clear hzt hza hb6 hzv hy1 hzl cs0 cx0
      go_upto_region 18 with (fail)
      have HZV7 := Lib.hid (HZV.out.kept (below_alloc W6 (.cells #[.slice za 2 zc] 54)))
      have HB7 := Lib.hid (below_lay HB6.out (.cells #[.slice za 2 zc] 54))
      have HZB := Lib.hid (heap_alloc_new W6 (.cells #[.slice za 2 zc] 54))
      have HXB7 := Lib.hid ((heap_alloc_old W6 (.cells #[.slice za 2 zc] 54) (Array.getElem?_eq_some_iff.1 HXB6.out).1).trans HXB6.out)
      have HXR7 := Lib.hid ((heap_alloc_old W6 (.cells #[.slice za 2 zc] 54) (Array.getElem?_eq_some_iff.1 HXR6.out).1).trans HXR6.out)
      obtain ⟨ZB, hZB⟩ : ∃ ZB, ZB = W6.heap.size := ⟨_, rfl⟩
      obtain ⟨W7, hW7⟩ : ∃ W7 : World, W7 = W6.alloc (.cells #[.slice za 2 zc] 54) := ⟨_, rfl⟩
      rw [← hW7] at HZV7 HB7 HZB HXB7 HXR7 ⊢
      rw [← hZB] at HZB ⊢
      clear hW7 hZB HB6 HXB6 HXR6 HZV
      have htk : bss.take q = bss := List.take_of_length_le (by rw [HBL.out]; exact Nat.le_refl _)
      rw [htk]
      obtain ⟨zb, zoff, rfl, hzc⟩ := HZV7.out.1.at (k := 1) (t := cellsZ y1) rfl
      have HTZ := Lib.hid (HY1.out)
      obtain ⟨n1, ⟨lv, ls⟩, ⟨hv, hs⟩⟩ := y1
      have hy := HTZ.out
      unfold Zv.t at hy
      simp only [Zt.mk.injEq] at hy
      obtain ⟨hn1, hlv, hhv⟩ := hy
      subst hn1 hlv hhv
      have hok := HZV7.out.2 ⟨0, (vO (minO bss), ls), (vO (maxO bss), hs)⟩ (List.mem_cons_of_mem _ List.mem_cons_self)
      have HOKZ := Lib.hid hok
      have zc0 : W7.cell? ⟨ZB, 0, none⟩ = some (.slice (some ⟨zb, zoff, none⟩) 2 zc) := by rw [cell_of_row W7 ZB 0 _ _ _ HZB.out]; rfl
      have k1 := hzc 1 _ rfl
      have k2 := hzc 2 _ rfl
      have k4 := hzc 4 _ rfl
      have k5 := hzc 5 _ rfl
      have k8 := hzc 8 _ rfl
      simp only at k1 k2 k4 k5 k8
      clear hzc htk hok
      by_cases hq0' : q = 0
      · have hb0 : bss = [] := List.length_eq_zero_iff.1 (by rw [HBL.out]; exact hq0')
        have hqz : ((q : Int) == 0) = true := by rw [beq_iff_eq]; omega
        rw [hb0] at k1 k2 k5
        have k1' : W7.cell? ⟨zb, zoff + 1 * 9 + 1, none⟩ = some (.bool true) := k1
        have k2' : W7.cell? ⟨zb, zoff + 1 * 9 + 2, none⟩ = some (.int .i64 2) := k2
        have k5' : W7.cell? ⟨zb, zoff + 1 * 9 + 5, none⟩ = some (.bool true) := k5
        clear k1 k2 k4 k5 k8 hb0 hq0'
        go_wp2_with fail
        refine (HAW.out _).mono ?_
        rintro e w8 ⟨rfl, hb8⟩
        have HF := Lib.hid (below_then HB7.out hb8)
        clear hb8 k1' k2' k5' zc0
        go_wp2_with fail
        go_ret
        exact ⟨rfl, HF.out⟩
      · have hqz : ((q : Int) == 0) = false := by rw [beq_eq_false_iff_ne]; omega
        obtain ⟨m, M, em, eM, hmi, hMi⟩ := minO_some (l := bss) (by intro h; have := HBL.out; rw [h] at this; simp at this; omega)
        have hsm := HSM.out
        rw [show bss.take q = bss from List.take_of_length_le (by rw [HBL.out]; exact Nat.le_refl _)] at hsm
        have hm256 := (hsm m hmi).2
        have hM256 := (hsm M hMi).2
        have hok := HOKZ.out
        have hzt := HZT.out
        rw [em, eM] at hok hzt
        rw [em, eM]
        simp only [Option.getD_some]
        have HZT2 := Lib.hid (show [y0, (⟨0, (vO (minO bss), ls), (vO (maxO bss), hs)⟩ : Zv)].map Zv.t = [y0.t, ⟨0, bV m, bV M⟩] by rw [← show (⟨0, vO (some m), vO (some M)⟩ : Zt) = ⟨0, bV m, bV M⟩ from rfl, ← em, ← eM]; rfl)
        obtain ⟨x1, d1, hes1⟩ := rd_shape8 hok.1.1
        obtain ⟨x2, d2, hes2⟩ := rd_shape8 hok.2.1
        simp only [vO, bV] at hes1 hes2
        subst hes1 hes2
        have hbb := HBB.out
        have hbB : OkV W7 (bV bb, .slice a1 len1 cap1) := hbb.kept HB7.out
        have HBB7 := Lib.hid hbB
        have hbb256 : ∀ x ∈ bb, x < 256 := hbb.2
        have hcvb := run_txt (P := Try.prog) W7 26 9 5 Try.underlying26 Try.underlying5 Try.underlying9 (v := .slice a1 len1 cap1) (bs := bb) hbB.1 hbb256
        have hcv1 := run_txt (P := Try.prog) W7 26 9 5 Try.underlying26 Try.underlying5 Try.underlying9 (v := .slice x1 m.length d1) (bs := m) hok.1.1 hm256
        have hcv2 := run_txt (P := Try.prog) W7 26 9 5 Try.underlying26 Try.underlying5 Try.underlying9 (v := .slice x2 M.length d2) (bs := M) hok.2.1 hM256
        have hcm : Cmp3 cmpB := lexL_ok cmpN_ok
        have eqd : ∀ a b, (a == b) = decide (cmpB a b = 0) := fun a b => by rw [Bool.eq_iff_iff, beq_iff_eq, decide_eq_true_eq]; exact (hcm.eq a b).symm
        have hL1 := bytesLess_cmp m bb hm256 hbb256
        have hL2 := bytesLess_cmp bb m hbb256 hm256
        have hL3 := bytesLess_cmp M bb hM256 hbb256
        have hL4 := bytesLess_cmp bb M hbb256 hM256
        have hE1 := txtOf_beq hm256 hbb256
        have hE2 := txtOf_beq hbb256 hm256
        have hE3 := txtOf_beq hM256 hbb256
        have hE4 := txtOf_beq hbb256 hM256
        rw [eqd] at hE1 hE2 hE3 hE4
        rw [← txtOf_toList, ← txtOf_toList] at hL1 hL2 hL3 hL4
        have ha1 := hcm.anti m bb
        have ha2 := hcm.anti M bb
        rw [ha1] at hL2 hE2
        rw [ha2] at hL4 hE4
        have ht1 := hcm.tri m bb
        have ht2 := hcm.tri M bb
        have HXBc := Lib.hid (show ∀ W, Below W7.heap.size W7 W → W.cell? ⟨BB, 0, none⟩ = some (.slice a1 len1 cap1) ∧ W.cell? ⟨ZB, 0, none⟩ = some (.slice (some ⟨zb, zoff, none⟩) 2 zc) ∧ W.cell? ⟨XB, 0, none⟩ = some (.slice vo q vc) from fun W h => ⟨by rw [cell_of_row W BB 0 _ _ _ ((h.block BB (Array.getElem?_eq_some_iff.1 HXB7.out).1).trans HXB7.out)]; rfl, by rw [cell_of_row W ZB 0 _ _ _ ((h.block ZB (Array.getElem?_eq_some_iff.1 HZB.out).1).trans HZB.out)]; rfl, by rw [cell_of_row W XB 0 _ _ _ ((h.block XB (Array.getElem?_eq_some_iff.1 HXR7.out).1).trans HXR7.out)]; rfl⟩)
        have HCL := Lib.hid (show ∀ (o : Int) (W : World), Below W7.heap.size W7 W → Calls Try.prog 36 #[.int .i64 o, .pointer (some ⟨BB, 0, none⟩), .pointer (some ⟨ZB, 0, none⟩), .pointer (some ⟨XB, 0, none⟩)] W fun e w' => e = .returned (.bool (cmpPosB o (cmpB m bb) (cmpB M bb))) ∧ Below W.heap.size W w' from fun o W h => by
          obtain ⟨g1, g2, g3⟩ := HXBc.out W h
          exact closB_any o bb _ _ _ vo q vc BB ZB XB y0.t m M W (by omega) (by have := HBBL.out; omega) (HBB7.out.kept h) (HZV7.out.kept h) HZT2.out g1 g2 g3)
        obtain ⟨c1, hc1⟩ : ∃ c1, c1 = cmpB m bb := ⟨_, rfl⟩
        obtain ⟨c2, hc2⟩ : ∃ c2, c2 = cmpB M bb := ⟨_, rfl⟩
        rw [← hc1] at hL1 hL2 hE1 hE2 ht1 HCL
        rw [← hc2] at hL3 hL4 hE3 hE4 ht2 HCL
        have cb0 := (HXBc.out W7 (Below.refl _ _)).1
        have hS := Below.refl W7.heap.size W7
        clear hc1 hc2 ha1 ha2 eqd hcm hbb256 hbb hbB hok hzt hm256 hM256 hsm hmi hMi em eM k1 k2 k5 hq0'
        obtain ⟨D, hD⟩ : ∃ D, D = Op.bytesLess (txtOf M).toList (txtOf bb).toList := ⟨_, rfl⟩
        obtain ⟨F, hF⟩ : ∃ F, F = Op.bytesLess (txtOf bb).toList (txtOf M).toList := ⟨_, rfl⟩
        obtain ⟨E, hE⟩ : ∃ E, E = ((txtOf M).toList == (txtOf bb).toList) := ⟨_, rfl⟩
        obtain ⟨G, hG⟩ : ∃ G, G = ((txtOf bb).toList == (txtOf M).toList) := ⟨_, rfl⟩
        have HD := Lib.hid (hD.trans hL3)
        have HF := Lib.hid (hF.trans hL4)
        have HE := Lib.hid (hE.trans hE3)
        have HG := Lib.hid (hG.trans hE4)
        replace hL3 := hD.symm
        replace hL4 := hF.symm
        replace hE3 := hE.symm
        replace hE4 := hG.symm
        have HT2 := Lib.hid ht2
        clear hD hF hE hG ht2
        rcases ht1 with rfl | rfl | rfl
        · as_aux_lemma =>
            have hL1' := hl_lit hL1 (show _ = true from rfl)
            have hL2' := hl_lit hL2 (show _ = false from rfl)
            have hE1' := hl_lit hE1 (show _ = false from rfl)
            have hE2' := hl_lit hE2 (show _ = false from rfl)
            clear hL1 hL2 hE1 hE2
            have hb1 : cmpPosB 1 (-1) c2 = (F || G) := by simp only [HD.out, HE.out, HF.out, HG.out]; rcases HT2.out with h | h | h <;> rw [h] <;> rfl
            have hb2 : cmpPosB 2 (-1) c2 = true := by rcases HT2.out with h | h | h <;> rw [h] <;> rfl
            have hb3 : cmpPosB 3 (-1) c2 = true := by rcases HT2.out with h | h | h <;> rw [h] <;> rfl
            have hb4 : cmpPosB 4 (-1) c2 = true := by rcases HT2.out with h | h | h <;> rw [h] <;> rfl
            have hb5 : cmpPosB 5 (-1) c2 = (!D && !E) := by simp only [HD.out, HE.out, HF.out, HG.out]; rcases HT2.out with h | h | h <;> rw [h] <;> rfl
            have hb6 : cmpPosB 6 (-1) c2 = !D := by simp only [HD.out, HE.out, HF.out, HG.out]; rcases HT2.out with h | h | h <;> rw [h] <;> rfl
            go_wp2_with fail
            refine (HCL.out 1 _ hS).mono ?_
            rintro e w11 ⟨rfl, hbn⟩
            replace hS := below_then hS hbn
            clear hbn
            rw [hb1]
            go_wp2_with fail
            refine (HCL.out 3 _ hS).mono ?_
            rintro e w13 ⟨rfl, hbn⟩
            replace hS := below_then hS hbn
            clear hbn
            rw [hb3]
            go_wp2_with fail
            refine (HCL.out 4 _ hS).mono ?_
            rintro e w14 ⟨rfl, hbn⟩
            replace hS := below_then hS hbn
            clear hbn
            rw [hb4]
            go_wp2_with fail
            refine (HCL.out 5 _ hS).mono ?_
            rintro e w15 ⟨rfl, hbn⟩
            replace hS := below_then hS hbn
            clear hbn
            rw [hb5]
            go_wp2_with fail
            refine (HCL.out 6 _ hS).mono ?_
            rintro e w16 ⟨rfl, hbn⟩
            replace hS := below_then hS hbn
            clear hbn
            rw [hb6]
            go_wp2_with fail
            refine (HCL.out 2 _ hS).mono ?_
            rintro e w12 ⟨rfl, hbn⟩
            replace hS := below_then hS hbn
            clear hbn
            rw [hb2]
            go_wp2_with fail
            refine (HAW.out _).mono ?_
            rintro e wa ⟨rfl, hbn⟩
            replace hS := below_then hS hbn
            clear hbn
            go_wp2_with fail
            go_ret
            exact ⟨rfl, below_then HB7.out hS⟩
        · as_aux_lemma =>
            have hL1' := hl_lit hL1 (show _ = false from rfl)
            have hL2' := hl_lit hL2 (show _ = false from rfl)
            have hE1' := hl_lit hE1 (show _ = true from rfl)
            have hE2' := hl_lit hE2 (show _ = true from rfl)
            clear hL1 hL2 hE1 hE2
            have hb1 : cmpPosB 1 (0) c2 = (F || G) := by simp only [HD.out, HE.out, HF.out, HG.out]; rcases HT2.out with h | h | h <;> rw [h] <;> rfl
            have hb2 : cmpPosB 2 (0) c2 = !E := by simp only [HD.out, HE.out, HF.out, HG.out]; rcases HT2.out with h | h | h <;> rw [h] <;> rfl
            have hb3 : cmpPosB 3 (0) c2 = false := by rcases HT2.out with h | h | h <;> rw [h] <;> rfl
            have hb4 : cmpPosB 4 (0) c2 = true := by rcases HT2.out with h | h | h <;> rw [h] <;> rfl
            have hb5 : cmpPosB 5 (0) c2 = (!D && !E) := by simp only [HD.out, HE.out, HF.out, HG.out]; rcases HT2.out with h | h | h <;> rw [h] <;> rfl
            have hb6 : cmpPosB 6 (0) c2 = !D := by simp only [HD.out, HE.out, HF.out, HG.out]; rcases HT2.out with h | h | h <;> rw [h] <;> rfl
            go_wp2_with fail
            refine (HCL.out 1 _ hS).mono ?_
            rintro e w11 ⟨rfl, hbn⟩
            replace hS := below_then hS hbn
            clear hbn
            rw [hb1]
            go_wp2_with fail
            refine (HCL.out 3 _ hS).mono ?_
            rintro e w13 ⟨rfl, hbn⟩
            replace hS := below_then hS hbn
            clear hbn
            rw [hb3]
            go_wp2_with fail
            refine (HCL.out 4 _ hS).mono ?_
            rintro e w14 ⟨rfl, hbn⟩
            replace hS := below_then hS hbn
            clear hbn
            rw [hb4]
            go_wp2_with fail
            refine (HCL.out 5 _ hS).mono ?_
            rintro e w15 ⟨rfl, hbn⟩
            replace hS := below_then hS hbn
            clear hbn
            rw [hb5]
            go_wp2_with fail
            refine (HCL.out 6 _ hS).mono ?_
            rintro e w16 ⟨rfl, hbn⟩
            replace hS := below_then hS hbn
            clear hbn
            rw [hb6]
            go_wp2_with fail
            refine (HCL.out 2 _ hS).mono ?_
            rintro e w12 ⟨rfl, hbn⟩
            replace hS := below_then hS hbn
            clear hbn
            rw [hb2]
            go_wp2_with fail
            refine (HAW.out _).mono ?_
            rintro e wa ⟨rfl, hbn⟩
            replace hS := below_then hS hbn
            clear hbn
            go_wp2_with fail
            go_ret
            exact ⟨rfl, below_then HB7.out hS⟩
        · as_aux_lemma =>
            have hL1' := hl_lit hL1 (show _ = false from rfl)
            have hL2' := hl_lit hL2 (show _ = true from rfl)
            have hE1' := hl_lit hE1 (show _ = false from rfl)
            have hE2' := hl_lit hE2 (show _ = false from rfl)
            clear hL1 hL2 hE1 hE2
            have hb1 : cmpPosB 1 (1) c2 = false := by rcases HT2.out with h | h | h <;> rw [h] <;> rfl
            have hb2 : cmpPosB 2 (1) c2 = true := by rcases HT2.out with h | h | h <;> rw [h] <;> rfl
            have hb3 : cmpPosB 3 (1) c2 = false := by rcases HT2.out with h | h | h <;> rw [h] <;> rfl
            have hb4 : cmpPosB 4 (1) c2 = false := by rcases HT2.out with h | h | h <;> rw [h] <;> rfl
            have hb5 : cmpPosB 5 (1) c2 = (!D && !E) := by simp only [HD.out, HE.out, HF.out, HG.out]; rcases HT2.out with h | h | h <;> rw [h] <;> rfl
            have hb6 : cmpPosB 6 (1) c2 = !D := by simp only [HD.out, HE.out, HF.out, HG.out]; rcases HT2.out with h | h | h <;> rw [h] <;> rfl
            go_wp2_with fail
            refine (HCL.out 1 _ hS).mono ?_
            rintro e w11 ⟨rfl, hbn⟩
            replace hS := below_then hS hbn
            clear hbn
            rw [hb1]
            go_wp2_with fail
            refine (HCL.out 3 _ hS).mono ?_
            rintro e w13 ⟨rfl, hbn⟩
            replace hS := below_then hS hbn
            clear hbn
            rw [hb3]
            go_wp2_with fail
            refine (HCL.out 4 _ hS).mono ?_
            rintro e w14 ⟨rfl, hbn⟩
            replace hS := below_then hS hbn
            clear hbn
            rw [hb4]
            go_wp2_with fail
            refine (HCL.out 5 _ hS).mono ?_
            rintro e w15 ⟨rfl, hbn⟩
            replace hS := below_then hS hbn
            clear hbn
            rw [hb5]
            go_wp2_with fail
            refine (HCL.out 6 _ hS).mono ?_
            rintro e w16 ⟨rfl, hbn⟩
            replace hS := below_then hS hbn
            clear hbn
            rw [hb6]
            go_wp2_with fail
            refine (HCL.out 2 _ hS).mono ?_
            rintro e w12 ⟨rfl, hbn⟩
            replace hS := below_then hS hbn
            clear hbn
            rw [hb2]
            go_wp2_with fail
            refine (HAW.out _).mono ?_
            rintro e wa ⟨rfl, hbn⟩
            replace hS := below_then hS hbn
            clear hbn
            go_wp2_with fail
            go_ret
            exact ⟨rfl, below_then HB7.out hS⟩

end Go.Proofs.Ytpabneinikbneaa
