import Derived.Test.YtnfjdoeemnhkbaaAgr
set_option linter.unusedVariables false
set_option linter.unusedSimpArgs false
set_option maxRecDepth 100000
set_option maxHeartbeats 8000000
open Go.Lib (hid)
namespace Go.Proofs.Ytnfjdoeemnhkbaa
open Go.RowKit
open _root_.List renaming mem_of_getElem? -> Qa, length_map -> Qb, map_append -> Qd, getElem?_eq_getElem -> Qe, take_add_one -> Qf, take_of_length_le -> Qg
open _root_.Nat renaming le_refl -> Qc
theorem zA4 {w : World} {ao : Option Addr} {len cap : Nat} {xs : List Value} (h : Rd w (.slice ao len cap) xs) :
  len = xs.length ∧ (0 < len -> ∃ b off, ao = some ⟨b, off, none⟩ ∧ ∀ i u, i < len -> xs[i]? = some u -> w.cell? ⟨b, off + i, none⟩ = some u) := by
 obtain ⟨ao', cap', hv, _, hc⟩ := h
 simp only [Value.slice.injEq] at hv
 obtain ⟨rfl, hl, rfl⟩ := hv
 refine ⟨hl, fun hp => ?_⟩
 obtain ⟨b, off, ha, hcell⟩ := hc (by omega)
 refine ⟨b, off, ha, fun i u hi hu => ?_⟩
 rw [hcell i (by omega), List.getD_eq_getElem?_getD, hu]
 rfl
theorem zJ2 (n : Nat) : (madeCells (Value.slice none 0 0).cells (n * 1)).toList = List.replicate n (.slice none 0 0) := by
 rw [show (Value.slice none 0 0).cells = #[Value.slice none 0 0] from rfl, Nat.mul_one, toList_madeCells_one]
theorem zK9 {n i : Nat} {u : Value} (h : (madeCells (Value.slice none 0 0).cells (n * 1)).toList[i]? = some u) : ∃ a m c, u = Value.slice a m c := by
 rw [zJ2] at h
 have := Qa h
 rw [List.eq_of_mem_replicate this]
 exact ⟨_, _, _, rfl⟩
theorem zNn : (Try.prog.info? 33).map (fun i => (i.zero, i.size, i.bytes)) = some (some (.slice none 0 0), 1, 24) := by kernel_rfl
theorem zI6 (x : El) (w : World) (h : RdP w x.1 x.2) (hl : x.2.length <= 1000000) (hb : ∀ t ∈ x.2, t.1.b.length <= 1000000) :
  Calls Try.prog 47 #[x.1] w fun e w' => ∃ y : El, e = .returned y.1 ∧ y.row = x.row ∧ RdRA w.heap.size w' y.1 y.2 ∧ Below w.heap.size w w' := by
 have HF := hid (zH6 x.2 hl x.1 w h hb)
 obtain ⟨ao, cap, hv⟩ := zAl h.1
 obtain ⟨n, hn⟩ : ∃ n, n = (x.2.map cellsV).length := ⟨_, rfl⟩
 rw [hv, <- hn] at HF ⊢
 clear hv h hn
 go_enter Try.func47, Try.ntmps47
 go_wp2_with fail
 refine HF.out.mono ?_
 rintro e w2 ⟨v', l', rfl, h1, h2, h3⟩
 have H1 := hid h1
 have H2 := hid h2
 have H3 := hid h3
 clear h1 h2 h3
 go_wp2_with fail
 go_ret
 exact ⟨(v', l'), rfl, H1.out, H2.out, H3.out⟩
theorem zLa (E : List El) (hl : E.length <= 1000000) (v : Value) (w : World) (hv : Rd w v (E.map Prod.fst)) (hr : ∀ x ∈ E, RdP w x.1 x.2 ∧ x.2.length <= 1000000 ∧ ∀ t ∈ x.2, t.1.b.length <= 1000000) :
  Calls Try.prog 85 #[v, .func (.func 47) #[] #[]] w fun e w' => ∃ v', e = .returned v' ∧ ∃ E' : List El, E'.map El.row = E.map El.row ∧ OwnD w.heap.size w' v' E' ∧ Below w.heap.size w w' := by
 obtain ⟨ao, cap, hvs⟩ : ∃ ao cap, v = .slice ao (E.map Prod.fst).length cap := by obtain ⟨ao, cap, h, _⟩ := hv; exact ⟨ao, cap, h⟩
 subst hvs
 obtain ⟨n, hN⟩ : ∃ n, n = E.length := ⟨_, rfl⟩
 rw [Qb, <- hN] at hv ⊢
 rw [<- hN] at hl
 have HN := hid hN
 rcases Nat.eq_zero_or_pos n with h0 | hpos
 ·subst h0
  have hle : E = [] := List.length_eq_zero_iff.1 hN.symm
  subst hle
  clear hN hv hr HN
  go_enter Try.func85, Try.ntmps85
  go_wp2_with fail
  go_ret
  exact ⟨.slice none 0 0, rfl, [], rfl, OwnD.nil _ _, Below.refl _ _⟩
 have HV := hid hv
 have HR := hid hr
 clear hv hr hN
 obtain ⟨i0, hi, hz0, hz1, hz2⟩ := info_parts zNn
 go_enter Try.func85, Try.ntmps85
 go_wp2_with (at_make; go_must (refine wpList_make_full _ rfl _ _ 27 rfl w.heap.size 33 i0 _ 1 Try.underlying27 hi hz0 hz1 .i64 .i64 _ _ n rfl rfl rfl rfl (by rw [hz2]; omega) (by unfold maxLen; omega) (Qc _) ?_); intro w1 hown1 hgrow1)
 have HO1 := hid hown1
 have HB1 := hid (show Below w.heap.size w w1 from ⟨hgrow1.os, hgrow1.tape, hgrow1.output, hgrow1.size, fun i hi => hgrow1.block i hi (by simp)⟩)
 obtain ⟨xs0, hxs0⟩ : ∃ xs0, xs0 = (madeCells (Value.slice none 0 0).cells (n * 1)).toList := ⟨_, rfl⟩
 rw [<- hxs0] at HO1
 obtain ⟨G, hG⟩ : ∃ G, G = w.heap.size := ⟨_, rfl⟩
 have HGG := hid hG
 rw [<- hG] at HO1 ⊢
 have HGI := hid (zKl HO1.out)
 have HXS := hid (show ∀ u ∈ xs0, ∃ a m c, u = Value.slice a m c from fun u hu => by
  rw [hxs0] at hu
  obtain ⟨i, hi⟩ := List.getElem?_of_mem hu
  exact zK9 hi)
 clear hown1 hgrow1 hxs0 hG hi hz0 hz1 hz2
 go_wp2_with fail
 go_loopw [16] (fun i wr => ∃ q : Nat, ∃ (E1 : List El) (xs : List Value), q <= n ∧ i = .int .i64 (q : Int) ∧ xs.length = n ∧ xs.take q = E1.map Prod.fst ∧ E1.map El.row = (E.take q).map El.row ∧ (∀ x ∈ E1, RdRA (G + 1) wr x.1 x.2) ∧ (∀ u ∈ xs, ∃ a m c, u = Value.slice a m c) ∧ wr.ownsRow G 33 1 (.slice (some ⟨G, 0, none⟩) n n) n xs ∧ G < wr.heap.size ∧ Below w.heap.size w wr) (fun i _ => n - (intOf i).toNat)
 case atStart => exact ⟨0, [], xs0, Nat.zero_le _, rfl, by have := HO1.out.1; simpa using this, by simp, by simp, (fun t ht => by cases ht), HXS.out, HO1.out, HGI.out, HB1.out⟩
 case round =>
  obtain ⟨q, E1, xs, hq, rfl, hxl, hxt, hlf, hra, hsl, hown, hgs, hbw⟩ := hrel
  have HXL := hid hxl
  have HXT := hid hxt
  have HLF := hid hlf
  have HRA := hid hra
  have HSL := hid hsl
  have HO := hid hown
  have HGS := hid hgs
  have HB := hid hbw
  clear hxl hxt hlf hra hsl hown hgs hbw
  by_cases hlt : q < n
  ·obtain ⟨t, ht⟩ : ∃ t, E[q]? = some t := ⟨_, Qe (by rw [<- HN.out]; exact hlt)⟩
   have HTK := hid (show (E.take (q + 1)).map El.row = (E.take q).map El.row ++ [t.row] by rw [Qf, ht, Qd]; rfl)
   obtain ⟨hok, hl6, hbg⟩ := HR.out t (Qa ht)
   have HCALL := hid (zI6 t wr (hok.kept HB.out) hl6 hbg)
   obtain ⟨b, off, rfl, hcell⟩ := (zA4 (HV.out.kept HB.out)).2 (by omega)
   obtain ⟨sa, sc, hes⟩ := zAl hok.1
   have k0 : wr.cell? ⟨b, off + q, none⟩ = some t.1 := hcell q t.1 hlt (by rw [List.getElem?_map, ht]; rfl)
   rw [hes, Qb] at k0 HCALL
   obtain ⟨tn, htn⟩ : ∃ tn, tn = t.2.length := ⟨_, rfl⟩
   rw [<- htn] at k0 HCALL
   clear htn
   have hlti : (q : Int) < (n : Int) := by omega
   have hq0 : (0 : Int) <= (q : Int) := by omega
   clear hok hbg hcell ht hes hl6
   go_wp2_with fail
   refine HCALL.out.mono ?_
   rintro e w2 ⟨y, rfl, hyr, hya, hb2⟩
   have HYR := hid hyr
   have HYA := hid hya
   have HB2 := hid hb2
   obtain ⟨ya, yc, hys⟩ := zCq hya.2.2.1
   have HO2 := hid (show w2.ownsRow G 33 1 (.slice (some ⟨G, 0, none⟩) n n) n xs from HO.out.kept (⟨hb2.os, hb2.tape, hb2.output, hb2.size, fun i hi _ => hb2.block i hi⟩ : wr.grownBy w2 none) (.inr (by simp [Value.ownBlock])))
   have hqx : q < xs.length := by rw [HXL.out]; exact hlt
   obtain ⟨u0, hu0⟩ : ∃ u0, xs[q]? = some u0 := ⟨_, Qe hqx⟩
   obtain ⟨ua, um, uc, rfl⟩ := HSL.out u0 (Qa hu0)
   have c0 : w2.cell? ⟨G, q, none⟩ = some (.slice ua um uc) := (HO2.out.cellAt q (by omega)).trans hu0
   have f0 := HO2.out.frozenAt q
   obtain ⟨yv, yl⟩ := y
   simp only at hys
   subst hys
   clear hyr hya hb2 hu0 k0 hqx
   go_wp2_with fail
   go_roundw
   case rel =>
    have hst := (HO2.out.stored q (.slice ya yl.length yc)).1
    have hgl := HGS.out
    have hsz2 := HB2.out.size
    have hag : ∀ K, G < K -> Above K w2 (w2.setCell ⟨G, q, none⟩ (.slice ya yl.length yc)) := fun K hK => zA0 (Above.refl _ _) _ _ hK
    refine ⟨q + 1, E1 ++ [(.slice ya yl.length yc, yl)], _, by omega, by go_num, by rw [List.length_set]; exact HXL.out, ?_, ?_, ?_, ?_, hst, ?_, ?_⟩
    ·rw [Qd, <- HXT.out, Qf, List.getElem?_set_self (by rw [HXL.out]; exact hlt), List.take_set_of_le (Qc _)]
     rfl
    ·rw [Qd, HLF.out, HTK.out]
     have := HYR.out
     rw [<- this]
     rfl
    ·intro x hx
     rcases List.mem_append.1 hx with h | h
     ·exact (HRA.out x h).above ((zAc HB2.out).trans hsz2 (hag _ (by omega))) (Qc _)
     ·rw [List.mem_singleton.1 h]
      exact HYA.out.above (hag _ (by omega)) (by omega)
    ·intro u hu
     rcases List.mem_or_eq_of_mem_set hu with h | rfl
     ·exact HSL.out u h
     ·exact ⟨_, _, _, rfl⟩
    ·simp [World.setCell]; omega
    ·exact (zAa HB.out HB2.out).setCell (p := ⟨G, q, none⟩) (by show _ <= G; have := HGG.out; omega) _
   case measure => simp [intOf]; omega
  ·have hqn : q = n := by omega
   have hlti : ¬ (q : Int) < (n : Int) := by omega
   have hel : E1.length = n := by have h := congrArg List.length HXT.out; rw [List.length_take, Qb, HXL.out] at h; omega
   have HFIN := hid (show OwnD G wr (.slice (some ⟨G, 0, none⟩) n n) E1 from by
    refine ⟨?_, fun x hx => (HRA.out x hx).above (Above.refl _ _) (by omega)⟩
    have h1 := HXT.out
    rw [Qg (by rw [HXL.out]; omega)] at h1
    rw [hel, <- h1]
    exact HO.out)
   have HLL := hid (show E1.map El.row = E.map El.row by rw [HLF.out, Qg (by rw [<- HN.out]; omega)])
   clear hel
   go_wp2_with fail
   go_ret
   exact ⟨_, rfl, E1, HLL.out, by rw [<- HGG.out]; exact HFIN.out, HB.out⟩
theorem zMg (E : List El) (hl : E.length <= 1000000) (v : Value) (w : World) (hv : Rd w v (E.map Prod.fst)) (hr : ∀ x ∈ E, RdP w x.1 x.2 ∧ x.2.length <= 1000000 ∧ ∀ t ∈ x.2, t.1.b.length <= 1000000) :
  Calls Try.prog 49 #[v] w fun e w' => ∃ v', e = .returned v' ∧ ∃ E' : List El, E'.map El.row = E.map El.row ∧ OwnD w.heap.size w' v' E' ∧ Below w.heap.size w w' := by
 have HF := hid (zLa E hl v w hv hr)
 obtain ⟨ao, cap, hvs⟩ : ∃ ao cap, v = .slice ao (E.map Prod.fst).length cap := by obtain ⟨ao, cap, h, _⟩ := hv; exact ⟨ao, cap, h⟩
 obtain ⟨n, hn⟩ : ∃ n, n = (E.map Prod.fst).length := ⟨_, rfl⟩
 rw [hvs, <- hn] at HF ⊢
 clear hvs hn hv hr
 go_enter Try.func49, Try.ntmps49
 go_wp2_with fail
 refine HF.out.mono ?_
 rintro e w2 ⟨v', rfl, E', h1, h2, h3⟩
 have H1 := hid h1
 have H2 := hid h2
 have H3 := hid h3
 clear h1 h2 h3
 go_wp2_with fail
 go_ret
 exact ⟨v', rfl, E', H1.out, H2.out, H3.out⟩
end Go.Proofs.Ytnfjdoeemnhkbaa
