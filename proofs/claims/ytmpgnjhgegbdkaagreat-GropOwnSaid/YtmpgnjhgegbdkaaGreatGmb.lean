import Derived.Test.YtmpgnjhgegbdkaaGreatGma
set_option linter.unusedVariables false
set_option linter.unusedSimpArgs false
set_option maxRecDepth 100000
set_option maxHeartbeats 8000000
open Go.Lib (hid)
namespace Go.Proofs.YtmpgnjhgegbdkaaGreat
open Go.RowKit
open _root_.List renaming length_map -> Qa
open Go.RowKit.Below renaming refl -> Qb
open _root_.Nat renaming zero_le -> Qc
theorem zLz (l : List Int) (lv : Value) (w : World) (hl : l.length <= 100000) (hr : Rd w lv (l.map (.int .i64))) :
  Calls Tryz.prog 65 #[lv] w fun e w' => ∃ v, e = .returned v ∧ w'.ownsRow w.heap.size 3 1 v l.length (l.map (Value.int .i64)) ∧ Below w.heap.size w w' := by
 obtain ⟨ao, cap, rfl⟩ := zAh hr
 rw [Qa] at hr ⊢
 have HR := hid hr
 rcases ao with _ | ⟨b, off, p⟩
 ·obtain ⟨ao', cap', hv, hn, _⟩ := hr
  simp only [Value.slice.injEq, Qa] at hv hn
  have hcap := hn.1 hv.1.symm
  have hl0 : l = [] := List.length_eq_zero_iff.1 (by omega)
  have hc0 : cap = 0 := by omega
  clear hv hn hcap HR
  subst hl0
  subst hc0
  have heq := fun (w' : World) => Lib.run_eql_slice_nil (P := Tryz.prog) w' 40 3 none 0 0 0 0 Tryz.underlying40
  go_enter Tryz.func65, Tryz.ntmps65
  go_wp2_with fail
  go_ret
  exact ⟨_, rfl, ⟨rfl, .inl ⟨rfl, rfl⟩⟩, Qb _ _⟩
 ·obtain ⟨n, hn⟩ : ∃ n, n = l.length := ⟨_, rfl⟩
  rw [<- hn] at HR ⊢
  have HN := hid hn
  rw [<- hn] at hl
  clear hr hn
  have heq := fun (w' : World) => Lib.run_eql_slice_nil (P := Tryz.prog) w' 40 3 (some ⟨b, off, p⟩) n cap 0 0 Tryz.underlying40
  have HRS := hid fun (w' : World) (h : Below w.heap.size w w') => zAs (HR.out.kept h)
  have HONE := hid (zAr (zLd l))
  go_enter Tryz.func65, Tryz.ntmps65
  have hpos := HN.out
  have HOE := hid (show (w.alloc (.cells #[] 3)).ownsRow w.heap.size 3 1 (.slice (some ⟨w.heap.size, 0, none⟩) 0 0) 0 [] from World.ownsRow_lit w #[] 0 (Nat.le_refl _) (by unfold maxLen; omega) rfl)
  have HRA := hid (HRS.out _ (zAd w (.cells #[] 3)))
  have hszB : w.heap.size <= (w.alloc (.cells #[] 3)).heap.size := by simp
  clear hpos
  go_wp2_with (at_builtin; go_must (refine zAf zLx rfl _ _ rfl w.heap.size _ _ _ rfl HOE.out _ ((l.map (Value.int .i64)).map fun u => [u]) rfl HRA.out HONE.out (by simp; have := HN.out; omega) hszB n (by have := HN.out; simp; omega) ?_); intro ao4 cap4 w4 hown4 hgrow4 hnew4; have HO4 := hid hown4; have HG4 := hid hgrow4; clear hown4 hgrow4 hnew4)
  go_ret
  refine ⟨_, rfl, ?_, ?_⟩
  ·have h := HO4.out
   rw [zAp, List.nil_append] at h
   exact h
  ·exact zAk (zAd w _) hszB (show (w.alloc (.cells #[] 3)).grownBy w4 (Value.slice (some ⟨w.heap.size, 0, none⟩) 0 0).ownBlock from HG4.out) (zAg HOE.out)
theorem zGn {K G : Nat} {cols : List Co} {rows : List (List Vc)} {ids : List Int} {sps : List (Int × Int × Int × Int)} (hl : ids.length <= 1000) (w : World) (h : GrpAt K w G cols rows ids sps) :
  Calls Tryz.prog 35 #[.pointer (some ⟨G, 0, none⟩)] w fun e w' => ∃ v, e = .returned v ∧ w'.ownsRow w.heap.size 3 1 v ids.length (ids.map (Value.int .i64)) ∧ Below w.heap.size w w' := by
 obtain ⟨h0, K2, sg, n, ic, tc, ia, ta, h1, h2, h2b, h3, h4, h5, h6, h7⟩ := h
 have HC := hid (zLz ids (.slice ia n ic) w (by omega) (Rd.of_owns h5))
 have c1 : w.cell? ⟨G, 1, none⟩ = some (.slice ia n ic) := by rw [cell_of_row w G 1 _ _ _ h3]; rfl
 clear h0 h1 h2 h2b h3 h4 h5 h6 h7
 go_enter Tryz.func35, Tryz.ntmps35
 go_wp2_with fail
 refine HC.out.mono ?_
 rintro e w' ⟨v, rfl, hown, hb⟩
 have HO := hid hown
 have HB := hid hb
 clear hown hb c1
 go_wp2_with fail
 go_ret
 exact ⟨v, rfl, HO.out, HB.out⟩
def liveT (sps : List (Int × Int × Int × Int)) : Nat := (sps.filter fun s => s.2.2.1 == 0 && s.2.2.2 == 0).length
theorem zOo {sps : List (Int × Int × Int × Int)} {q : Nat} {s : Int × Int × Int × Int} (h : sps[q]? = some s) : liveT (sps.take (q + 1)) = liveT (sps.take q) + (if (s.2.2.1 == 0 && s.2.2.2 == 0) = true then 1 else 0) := by
 unfold liveT
 rw [List.take_add_one, h, Option.toList_some, List.filter_append, List.length_append]
 congr 1
 cases hs : (s.2.2.1 == 0 && s.2.2.2 == 0) <;> simp [List.filter, hs]
theorem zFi {K G : Nat} {cols : List Co} {rows : List (List Vc)} {ids : List Int} {sps : List (Int × Int × Int × Int)} (hl : sps.length <= 1000) (w : World) (h : GrpAt K w G cols rows ids sps) :
  Calls Tryz.prog 36 #[.pointer (some ⟨G, 0, none⟩)] w fun e w' => e = .returned (.int .i64 (liveT sps : Nat)) ∧ Below w.heap.size w w' := by
 obtain ⟨h0, K2, sg, n, ic, tc, ia, ta, h1, h2, h2b, h3, h4, h5, h6, h7⟩ := h
 have c2 : w.cell? ⟨G, 2, none⟩ = some (.slice ta n tc) := by rw [cell_of_row w G 2 _ _ _ h3]; rfl
 have HR := hid (zHm (ls := sps.map spc) h6 (by rw [Qa]; exact h2b) (fun t ht => by obtain ⟨x, _, rfl⟩ := List.mem_map.1 ht; rfl))
 have HN := hid h2b
 have hn : n <= 1000 := by omega
 clear h0 h1 h2 h2b h3 h4 h5 h6 h7 hl
 go_enter Tryz.func36, Tryz.ntmps36
 go_wp2_with fail
 go_loopw [3, 11] (fun cn i wr => ∃ q : Nat, q <= n ∧ i = .int .i64 (q : Int) ∧ cn = .int .i64 (liveT (sps.take q) : Nat) ∧ liveT (sps.take q) <= q ∧ Below w.heap.size w wr) (fun _ i _ => n - (intOf i).toNat)
 case atStart => exact ⟨0, Qc _, rfl, rfl, Qc _, Qb _ _⟩
 case round =>
  obtain ⟨q, hq, rfl, rfl, hlq, hb⟩ := hrel
  have HB := hid hb
  obtain ⟨k, hk⟩ : ∃ k, k = liveT (sps.take q) := ⟨_, rfl⟩
  rw [<- hk] at hlq ⊢
  have HK := hid hk
  clear hb hk
  by_cases hlt : q < n
  ·have hlti : (q : Int) < (n : Int) := by omega
   have hq0 : (0 : Int) <= (q : Int) := by omega
   obtain ⟨s, hs⟩ : ∃ s, sps[q]? = some s := ⟨_, List.getElem?_eq_getElem (by rw [<- HN.out]; exact hlt)⟩
   have HSU := hid (zOo hs)
   rw [<- HK.out] at HSU
   obtain ⟨b, off, rfl, hc⟩ := (HR.out.kept HB.out).at (k := q) (t := spc s) (by rw [List.getElem?_map, hs]; rfl)
   obtain ⟨bt, ba, et, ea⟩ := s
   have p0 : wr.cell? ⟨b, off + q * 4, none⟩ = some (.int .i64 bt) := hc 0 _ rfl
   have p1 : wr.cell? ⟨b, off + q * 4 + 1, none⟩ = some (.int .i64 ba) := hc 1 _ rfl
   have p2 : wr.cell? ⟨b, off + q * 4 + 2, none⟩ = some (.int .i64 et) := hc 2 _ rfl
   have p3 : wr.cell? ⟨b, off + q * 4 + 3, none⟩ = some (.int .i64 ea) := hc 3 _ rfl
   simp only at HSU
   clear hs hc
   cases hx : (et == 0)
   ·rw [hx] at HSU
    go_wp2_with fail
    go_roundw
    case rel => exact ⟨q + 1, by omega, by go_num, by rw [HSU.out]; rfl, by rw [HSU.out]; simp; omega, zAl HB.out _⟩
    case measure => simp [intOf]; omega
   ·cases hy : (ea == 0)
    ·rw [hx, hy] at HSU
     go_wp2_with fail
     go_roundw
     case rel => exact ⟨q + 1, by omega, by go_num, by rw [HSU.out]; rfl, by rw [HSU.out]; simp; omega, zAl HB.out _⟩
     case measure => simp [intOf]; omega
    ·rw [hx, hy] at HSU
     go_wp2_with fail
     go_roundw
     case rel => exact ⟨q + 1, by omega, by go_num, by rw [HSU.out]; go_num, by rw [HSU.out]; simp; omega, zAl HB.out _⟩
     case measure => simp [intOf]; omega
  ·have hqn : q = n := by omega
   have hlti : ¬ (q : Int) < (n : Int) := by omega
   have HF := hid (show k = liveT sps by rw [HK.out, hqn, HN.out, List.take_length])
   clear hqn
   go_wp2_with fail
   go_ret
   exact ⟨by rw [HF.out]; rfl, HB.out⟩
end Go.Proofs.YtmpgnjhgegbdkaaGreat
