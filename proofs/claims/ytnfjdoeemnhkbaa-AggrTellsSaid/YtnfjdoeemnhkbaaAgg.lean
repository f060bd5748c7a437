import Derived.Test.YtnfjdoeemnhkbaaAgf
import Derived.Test.YtnfjdoeemnhkbaaSte
import Derived.Test.YtnfjdoeemnhkbaaLsix
set_option linter.unusedVariables false
set_option linter.unusedSimpArgs false
set_option maxRecDepth 100000
set_option maxHeartbeats 8000000
open Go.Lib (hid)
namespace Go.Proofs.Ytnfjdoeemnhkbaa
open Go.RowKit Sy
open _root_.List renaming getD_eq_getElem?_getD -> Qa, length_map -> Qb, getElem?_map -> Qc, mem_of_getElem? -> Qd, mem_map_of_mem -> Qe
open Go renaming cell_of_row -> Qf, frozen_of_row -> Qg, heap_alloc_new -> Qh
theorem zAz : (Try.prog.info? 36).map (·.size) = some 4 := by kernel_rfl
def nilQ : Vc × Value := (⟨true, 0, 0, []⟩, .slice none 0 0)
def atP (l : List (Vc × Value)) (c : Int) : Vc × Value := if c < 0 then nilQ else l.getD c.toNat nilQ
theorem zBo (l : List (Vc × Value)) (c : Int) : (atP l c).1 = atT (l.map Prod.fst) c := by
 unfold atP atT
 split
 ·rfl
 ·rw [Qa, Qa, Qc]
  cases l[c.toNat]? <;> rfl
theorem zC5 (l : List (Vc × Value)) (c : Int) : atP l c = nilQ ∨ atP l c ∈ l := by
 unfold atP
 split
 ·exact .inl rfl
 ·rw [Qa]
  cases h : l[c.toNat]? with
  | none => exact .inl rfl
  | some t => exact .inr (Qd h)
theorem zCw {w : World} {v : Value} {l : List (Vc × Value)} (h : RdP w v l) (c : Int) : OkV w (atP l c) := by
 rcases zC5 l c with h1 | h1
 ·rw [h1]; exact ⟨Rd.nil _, fun x hx => by cases hx⟩
 ·exact h.2 _ h1
theorem zEv (l : List (Vc × Value)) (v : Value) (c : Int) (w : World) (hr : RdP w v l) (hl : l.length <= 1000000) :
  Calls Try.prog 45 #[v, .int .i64 c] w fun e w' => e = .returned (aggV (atP l c)) ∧ Below w.heap.size w w' := by
 obtain ⟨ao, cap, rfl⟩ := zAl hr.1
 obtain ⟨n, hN⟩ : ∃ n, n = l.length := ⟨_, rfl⟩
 rw [Qb, <- hN]
 rw [<- hN] at hl
 by_cases hc : c < 0 ∨ (n : Int) <= c
 ·have HV := hid (show atP l c = nilQ by
   unfold atP
   rcases hc with h | h
   ·rw [if_pos h]
   ·rw [if_neg (by omega), Qa, List.getElem?_eq_none (by omega)]; rfl)
  clear hN hr
  rcases (show c < 0 ∨ (0 <= c ∧ (n : Int) <= c) by omega) with h | ⟨h, h1⟩
  ·clear hc
   go_enter Try.func45, Try.ntmps45
   go_wp2_with fail
   (try simp only [Exit.inBlock, Exit.then])
   refine bodyPost_ret (results_cell_row rfl _ _ w.heap.size _ #[.bool true, .int .i64 0, .int .i64 0, .slice none 0 0] (0, 0) _ rfl (Qh w _) Try.underlying36 rfl zAz) rfl ?_
   rw [HV.out]
   exact ⟨rfl, zAi w _⟩
  ·have h0 : ¬ c < 0 := by omega
   clear hc
   go_enter Try.func45, Try.ntmps45
   go_wp2_with fail
   (try simp only [Exit.inBlock, Exit.then])
   refine bodyPost_ret (results_cell_row rfl _ _ w.heap.size _ #[.bool true, .int .i64 0, .int .i64 0, .slice none 0 0] (0, 0) _ rfl (Qh w _) Try.underlying36 rfl zAz) rfl ?_
   rw [HV.out]
   exact ⟨rfl, zAi w _⟩
 ·obtain ⟨k, rfl⟩ : ∃ k : Nat, c = (k : Int) := ⟨c.toNat, by omega⟩
  have hk : k < n := by omega
  obtain ⟨t, ht⟩ : ∃ t, l[k]? = some t := ⟨_, List.getElem?_eq_getElem (by omega)⟩
  have HV := hid (show atP l (k : Int) = t by
   unfold atP
   rw [if_neg (by omega), Qa, Int.toNat_natCast, ht]
   rfl)
  rw [Qb, <- hN] at hr
  obtain ⟨b, off, rfl, hcell⟩ := hr.1.at (k := k) (t := cellsV t) (by rw [Qc, ht]; rfl)
  obtain ⟨sa, sc, hes⟩ := zAo (hr.2 t (Qd ht)).1
  obtain ⟨⟨tu, tk, tn, bs⟩, sl⟩ := t
  simp only at hes
  subst hes
  obtain ⟨m, hm⟩ : ∃ m, m = bs.length := ⟨_, rfl⟩
  unfold cellsV at hcell
  simp only at hcell
  rw [<- hm] at hcell HV
  have HM := hid hm
  obtain ⟨W, hW⟩ : ∃ W : World, W = w.alloc (.cells #[.bool false, .int .i64 0, .int .i64 0, .slice none 0 0] 36) := ⟨_, rfl⟩
  have hkp : ∀ a u, w.cell? a = some u -> W.cell? a = some u := fun a u h => by rw [hW]; exact (World.cell?_alloc_old _ _ _ (Nat.ne_of_lt (World.block_lt_of_cell? _ _ h))).trans h
  have k0 : W.cell? ⟨b, off + k * 4, none⟩ = some (.bool tu) := hkp _ _ (by have h := hcell 0 _ rfl; simpa using h)
  have k1 : W.cell? ⟨b, off + k * 4 + 1, none⟩ = some (.int .i64 tk) := hkp _ _ (hcell 1 _ rfl)
  have k2 : W.cell? ⟨b, off + k * 4 + 2, none⟩ = some (.int .i64 tn) := hkp _ _ (hcell 2 _ rfl)
  have k3 : W.cell? ⟨b, off + k * 4 + 3, none⟩ = some (.slice sa m sc) := hkp _ _ (hcell 3 _ rfl)
  have HX := hid (show W.heap[w.heap.size]? = some (.cells #[.bool false, .int .i64 0, .int .i64 0, .slice none 0 0] 36 (0, 0)) by rw [hW]; exact Qh w _)
  have HBW := hid (show Below w.heap.size w W by rw [hW]; exact zAi w _)
  obtain ⟨X, hX⟩ : ∃ X, X = w.heap.size := ⟨_, rfl⟩
  rw [<- hX] at HX
  have HXE := hid hX
  have g0 : W.cell? ⟨X, 0, none⟩ = some (.bool false) := by rw [Qf W X 0 _ _ _ HX.out]; rfl
  have g1 : W.cell? ⟨X, 1, none⟩ = some (.int .i64 0) := by rw [Qf W X 1 _ _ _ HX.out]; rfl
  have g2 : W.cell? ⟨X, 2, none⟩ = some (.int .i64 0) := by rw [Qf W X 2 _ _ _ HX.out]; rfl
  have g3 : W.cell? ⟨X, 3, none⟩ = some (.slice none 0 0) := by rw [Qf W X 3 _ _ _ HX.out]; rfl
  have e0 : W.frozen? ⟨X, 0, none⟩ = false := Qg W X 0 _ _ HX.out
  have e1 : W.frozen? ⟨X, 1, none⟩ = false := Qg W X 1 _ _ HX.out
  have e2 : W.frozen? ⟨X, 2, none⟩ = false := Qg W X 2 _ _ HX.out
  have e3 : W.frozen? ⟨X, 3, none⟩ = false := Qg W X 3 _ _ HX.out
  have hki : (k : Int) < (n : Int) := by omega
  have hk0 : (0 : Int) <= (k : Int) := by omega
  have hn1 : ¬ (k : Int) < 0 := by omega
  have hn2 : ¬ (n : Int) <= (k : Int) := by omega
  clear hcell ht hN hr hc hm
  go_enter Try.func45, Try.ntmps45
  go_upto_region 1 with (fail)
  rw [<- hW, <- hX]
  clear hW hX hkp
  go_wp2_with fail
  (try simp only [Exit.inBlock, Exit.then])
  refine bodyPost_ret (results_cell_row rfl _ _ X _ #[.bool tu, .int .i64 tk, .int .i64 tn, .slice sa m sc] (0, 0) _ rfl (zAu HX.out) Try.underlying36 rfl zAz) rfl ?_
  rw [HV.out]
  have hx := HXE.out
  exact ⟨rfl, (((HBW.out.setCell (p := ⟨X, 0, none⟩) (by show _ <= X; omega) _).setCell (p := ⟨X, 1, none⟩) (by show _ <= X; omega) _).setCell (p := ⟨X, 2, none⟩) (by show _ <= X; omega) _).setCell (p := ⟨X, 3, none⟩) (by show _ <= X; omega) _⟩
def KindsR (ks : List Int) (R : List (List Vc)) : Prop := ∀ r ∈ R, r.map (·.k) = ks ∧ ∀ v ∈ r, NormV v
def keyR (r : List Vc) : List ((Int × Int) × List Nat) := r.map keyV
theorem zLd : ∀ args w, (callFunc 51 args).run Try.prog w = .ok (.enter 51 args) w := by
 intro args w
 go_simp
theorem zH9 (ks : List Int) (E : List El) (hk : KindsR ks (E.map El.row)) (hl : E.length <= 1000000) (v : Value) (w : World) (hv : Rd w v (E.map Prod.fst)) (hr : ∀ x ∈ E, RdP w x.1 x.2 ∧ x.2.length <= 1000000 ∧ ∀ t ∈ x.2, t.1.b.length <= 1000000) :
  Calls Try.prog 15 #[v] w fun e w' => ∃ v', e = .returned v' ∧ ∃ Z : List El, (Z.map El.row).Perm (E.map El.row) ∧ Srt (ltC (lexL cmpK) fun x : El => keyR x.row) Z ∧ OwnD w.heap.size w' v' Z ∧ Below w.heap.size w w' := by
 have HF := hid (zMg E hl v w hv hr)
 obtain ⟨ao, cap, hvs⟩ : ∃ ao cap, v = .slice ao (E.map Prod.fst).length cap := by obtain ⟨ao, cap, h, _⟩ := hv; exact ⟨ao, cap, h⟩
 obtain ⟨n, hn⟩ : ∃ n, n = (E.map Prod.fst).length := ⟨_, rfl⟩
 rw [hvs, <- hn] at HF ⊢
 have HK := hid hk
 have HL6 := hid (show ∀ r ∈ E.map El.row, r.length <= 1000000 from fun r hr2 => by
  obtain ⟨x, hx, rfl⟩ := List.mem_map.1 hr2
  have := (hr x hx).2.1
  unfold El.row
  rw [Qb]
  exact this)
 have HLN := hid hl
 clear hvs hn hv hr hk
 go_enter Try.func15, Try.ntmps15
 go_wp2_with fail
 refine HF.out.mono ?_
 rintro e w2 ⟨v', rfl, E', h1, h2, h3⟩
 have H1 := hid h1
 have H2 := hid h2
 have H3 := hid h3
 have hlen : E'.length = E.length := by have := congrArg List.length h1; rwa [Qb, Qb] at this
 rcases Joins.ownsRow_forms h2.1 with ⟨hv, h0⟩ | ⟨g, c', hv⟩
 ·have HE := hid (List.length_eq_zero_iff.1 h0)
  have HN := hid (zHi (.func (.func 51) #[] #[]) w2)
  rw [hv] at H2 ⊢
  clear h0 hv h1 h2 h3 hlen
  go_wp2_with fail
  refine HN.out.mono ?_
  rintro e w3 ⟨rfl, rfl⟩
  go_wp2_with fail
  go_ret
  refine ⟨_, rfl, E', by rw [H1.out], ?_, H2.out, H3.out⟩
  rw [HE.out]
  exact .nil
 ·obtain ⟨m, hm⟩ : ∃ m, m = E'.length := ⟨_, rfl⟩
  rw [<- hm] at hv
  have HM := hid hm
  have h2b := h2
  rw [hv] at h2b H2 ⊢
  obtain ⟨cc, fz, hg⟩ := zI5 (show w2.ownsRow w.heap.size 33 1 (.slice (some ⟨g, 0, none⟩) m c') m (E'.map Prod.fst) from by have := h2b.1; rw [<- hm] at this; exact this)
  have HRE := hid (show RowE w.heap.size g m c' w2 E' from ⟨by have := h2b.1; rw [<- hm] at this; exact this, fun x hx => by obtain ⟨a, c, h⟩ := zCq (h2b.2 x hx).2.2.1; exact ⟨a, _, c, h⟩⟩)
  have HCK := hid (show CmpOK 51 #[] (ltC (lexL cmpK) fun x : El => keyR x.row) E' g w2 from ⟨zLd, fun w' ha x hx y hy => by
   have hx2 := (h2b.2 x hx).agree ha hg (by decide) (by decide)
   have hy2 := (h2b.2 y hy).agree ha hg (by decide) (by decide)
   have mx : x.row ∈ E.map El.row := by rw [<- h1]; exact Qe hx
   have my : y.row ∈ E.map El.row := by rw [<- h1]; exact Qe hy
   refine (zNj x.1 y.1 x.row y.row w' ⟨x.2, rfl, hx2.rd⟩ ⟨y.2, rfl, hy2.rd⟩ (HL6.out _ mx) (HL6.out _ my)).mono ?_
   rintro e w3 ⟨rfl, hb⟩
   refine ⟨_, rfl, ?_, hb⟩
   unfold ltC keyR
   rw [zGw x.row y.row (HK.out _ mx).2 (HK.out _ my).2 ((HK.out _ mx).1.trans (HK.out _ my).1.symm)]⟩)
  have hm6 : m <= 1000000 := by rw [hm, hlen]; exact HLN.out
  have HS := hid (zH8 (zHz (zC3 zBf) _) HCK.out hm6 E' hm (fun x hx => hx) w2 (Agree.refl _ _) HRE.out)
  have hgl := (h2b.1.lt g rfl).1
  have HG := hid hgl
  clear hv h1 h2 h3 hlen h2b hg hm hgl
  go_wp2_with fail
  refine HS.out.mono ?_
  rintro e w3 ⟨rfl, Z, hz1, hz2, hz3, hz4⟩
  have HZ1 := hid hz1
  have HZ2 := hid hz2
  have HZ3 := hid hz3
  have HZ4 := hid hz4
  clear hz1 hz2 hz3 hz4
  go_wp2_with fail
  go_ret
  refine ⟨_, rfl, Z, ?_, HZ2.out, H2.out.sorted HM.out.symm HZ1.out HZ4.out HZ3.out.own, ?_⟩
  ·rw [<- H1.out]; exact HZ1.out.map _
  ·exact H3.out.trans (HZ4.out.below (fun i hi e => by have := HG.out; omega) H3.out.size)
end Go.Proofs.Ytnfjdoeemnhkbaa
