/-
  Contract of layer 12's Put.
-/
import Derived.Test.YtnfjdoeemnhkbaaDltc
namespace Go.Proofs.Ytnfjdoeemnhkbaa
set_option linter.unusedVariables false
set_option linter.unusedSimpArgs false
open Go.RowKit

theorem cells_set (vs : List Vr) (p : Nat) (x : Vr) (hp : vs[p]? = some x) (a : Option Addr) (n c : Nat) : ((vs.map Vr.cells).flatten).set (p * 6 + 1) (.slice a n c) = ((vs.set p ⟨x.i, a, n, c, x.s1, x.s2, x.s3, x.s4⟩).map Vr.cells).flatten := by
  rw [flatten_set6 6 (vs.map Vr.cells) (vr_len vs) p 1 x.cells (.slice a n c) (by rw [List.getElem?_map, hp]; rfl) (by decide), List.map_set]
  rfl

set_option maxRecDepth 100000 in
set_option maxHeartbeats 8000000 in
theorem dput_at (vs : List Vr) (hl : vs.length ≤ 10000) (hs : Rise vs) (g n vc d base : Nat) (most t : Int) (p : Nat) (x : Vr) (ra : Option Addr) (rn rc : Nat) (l : List (Vc × Value)) (hll : l.length ≤ 1000000) (w : World) (hn : n = vs.length)
    (hown : w.ownsRow base 84 6 (.slice (some ⟨g, 0, none⟩) n vc) n (vs.map Vr.cells).flatten) (hbase : base ≤ d) (hdv : g ≠ d)
    (hd : w.heap[d]? = some (.cells #[.int .i64 most, .slice (some ⟨g, 0, none⟩) n vc] 121 (0, 0))) (hp : vs[p]? = some x) (hxt : x.i = t) (hx : RdP w (.slice ra rn rc) l) (hbig : ∀ t ∈ l, t.1.b.length ≤ 1000000) :
    Calls Try.prog 38 #[.pointer (some ⟨d, 0, none⟩), .int .i64 t, .slice ra rn rc] w fun e w' => e = .returned (.bool true) ∧ ∃ (na : Option Addr) (nn nc : Nat) (l' : List (Vc × Value)) (w1 : World),
      w'.heap[d]? = some (.cells #[.int .i64 most, .slice (some ⟨g, 0, none⟩) n vc] 121 (0, 0)) ∧ w'.ownsRow base 84 6 (.slice (some ⟨g, 0, none⟩) n vc) n ((vs.set p ⟨x.i, na, nn, nc, x.s1, x.s2, x.s3, x.s4⟩).map Vr.cells).flatten ∧
      l'.map Prod.fst = l.map Prod.fst ∧ RdRA w.heap.size w1 (.slice na nn nc) l' ∧ Above w.heap.size w1 w' ∧ w.heap.size ≤ w1.heap.size ∧ w1.heap.size ≤ w'.heap.size ∧
      Below base w w' ∧ (∀ b, b < w.heap.size → b ≠ g → w'.heap[b]? = w.heap[b]?) := by
  have hdl : d < w.heap.size := (Array.getElem?_eq_some_iff.1 hd).1
  have hgl : g < w.heap.size := own_lt hown g rfl
  have hgb : base ≤ g := own_base hown g rfl
  have HR := Lib.hid (rdS_own hown (by rw [List.length_map]; exact hn) (vr_len vs))
  have HO := Lib.hid hown
  have HD := Lib.hid hd
  have HF := Lib.hid fun w' (h : Below w.heap.size w w') => find_any vs (by omega) hs (some ⟨g, 0, none⟩) n vc d most t w' hn (HR.out.kept h) ((h.block d hdl).trans hd)
  have HV := Lib.hid fun w' (h : Below w.heap.size w w') => frow_any l hll (.slice ra rn rc) w' (hx.kept h) hbig
  have HN := Lib.hid hn
  have HP := Lib.hid hp
  have HRI := Lib.hid hs
  have HXT := Lib.hid hxt
  have hpn : p < n := by rw [hn]; exact (List.getElem?_eq_some_iff.1 hp).1
  have HLEN := Lib.hid (show ((vs.map Vr.cells).flatten).length = n * 6 by rw [flatten_len _ 6 (vr_len vs), List.length_map, hn])
  have hnl : n ≤ 10000 := by omega
  have hdb : base ≤ w.heap.size := by omega
  clear hown hd hx hbig hs hn hl hll hp hxt
  go_enter Try.func38, Try.ntmps38
  go_wp2_with fail
  refine (HF.out w (Below.refl _ _)).mono ?_
  rintro e w2 ⟨i, b, rfl, ⟨hi, hlo, hhi, hbb⟩, hb2⟩
  have hip : i = p := by
    have h1 := HXT.out
    rcases Nat.lt_trichotomy i p with h | h | h
    · exfalso
      obtain ⟨y, hy⟩ : ∃ y, vs[i]? = some y := ⟨_, List.getElem?_eq_getElem (by have := HN.out; omega)⟩
      have h2 := HRI.out i p y _ h hy HP.out
      have h3 := hhi i y (Nat.le_refl _) hy
      omega
    · exact h
    · exfalso
      have h2 := hlo p _ h HP.out
      omega
  subst hip
  have hbt : b = true := by
    rw [hbb, HP.out, ← HXT.out]
    simp
  subst hbt
  have HB2 := Lib.hid hb2
  have hd2 := (hb2.block d hdl).trans HD.out
  have HD2 := Lib.hid hd2
  clear hi hlo hhi hbb hb2 hd2
  have hini : (i : Int) < (n : Int) := by omega
  have hi0 : (0 : Int) ≤ (i : Int) := by omega
  go_upto_region 3 with (fail)
  have c1 : w2.cell? ⟨d, 1, none⟩ = some (.slice (some ⟨g, 0, none⟩) n vc) := by rw [cell_of_row w2 d 1 _ _ _ HD2.out]; rfl
  go_region_law
    (first
      | (go_simp; go_at_call 47; refine (HV.out _ ?_).mono ?_; (exact below_dr2 HB2.out); rintro e w5 ⟨v', l', rfl, h1, h2, hb5⟩; have hB5 : Below w2.heap.size w2 w5 := below_then (below_drw _ _) hb5; obtain ⟨na, nc, hs'⟩ := rdS_shape h2.1.rd; rw [List.length_map] at hs'; subst hs'; obtain ⟨nn, hnn⟩ : ∃ nn, nn = l'.length := ⟨_, rfl⟩; rw [← hnn] at h2 ⊢; have hd5 := (hB5.block d (Array.getElem?_eq_some_iff.1 HD2.out).1).trans HD2.out; have c15 : w5.cell? ⟨d, 1, none⟩ = some (.slice (some ⟨g, 0, none⟩) n vc) := (by rw [cell_of_row w5 d 1 _ _ _ hd5]; rfl); have H1 := Lib.hid h1; have H2 := Lib.hid h2; have HB5 := Lib.hid (below_then HB2.out hB5); have HO5 := Lib.hid (own_kept HO.out HB5.out); have c0 := HO5.out.cellAt (i * 6 + 1) (by omega); have f0 := HO5.out.frozenAt (i * 6 + 1); obtain ⟨u0, hu0⟩ : ∃ u0, ((vs.map Vr.cells).flatten)[i * 6 + 1]? = some u0 := ⟨_, List.getElem?_eq_getElem (by rw [HLEN.out]; omega)⟩; rw [hu0] at c0; clear hnn hu0 h1 h2)
      | fail)
  all_goals
    go_wp2_with fail
    go_ret
    have hsz5 := HB5.out.size
    have hst := (HO5.out.stored (i * 6 + 1) (.slice na nn nc)).1
    rw [cells_set vs i x HP.out] at hst
    have hbl : ∀ b, b < w5.heap.size → b ≠ g → (w5.setCell ⟨g, i * 6 + 1, none⟩ (.slice na nn nc)).heap[b]? = w5.heap[b]? := fun b h1 h2 => heap_setCell_other w5 ⟨g, i * 6 + 1, none⟩ b _ h2
    refine ⟨rfl, na, nn, nc, l', w5, ?_, hst, H1.out, H2.out.above (Above.refl _ _) (show w.heap.size ≤ w2.heap.size from HB2.out.size), ?_, hsz5, ?_, ?_, ?_⟩
    · exact (hbl d (by omega) (Ne.symm hdv)).trans ((HB5.out.block d hdl).trans HD.out)
    · exact fun b h1 h2 => hbl b h2 (by omega)
    · simp [World.setCell]
    · exact (HB5.out.mono hdb).setCell (p := ⟨g, i * 6 + 1, none⟩) hgb _
    · exact fun b h1 h2 => (hbl b (by omega) h2).trans (HB5.out.block b h1)

end Go.Proofs.Ytnfjdoeemnhkbaa
