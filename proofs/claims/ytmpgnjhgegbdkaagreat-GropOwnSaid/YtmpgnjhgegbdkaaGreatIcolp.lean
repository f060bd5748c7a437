import Derived.Test.YtmpgnjhgegbdkaaGreatIcoli
import Derived.Test.YtmpgnjhgegbdkaaGreatSortLay
import Derived.Shelf.SlSortCmp.Whole1
set_option linter.unusedVariables false
set_option linter.unusedSimpArgs false
set_option maxRecDepth 100000
set_option maxHeartbeats 8000000
open Go.Lib (hid)
namespace Go.Proofs.YtmpgnjhgegbdkaaGreat
open Go.RowKit
open Go.RowKit.Below renaming refl -> Qa
open _root_.List renaming length_map -> Qb, getElem?_eq_getElem -> Qe, getElem?_map -> Qp, size_toArray -> Qq, extract_eq_take_drop -> Qs, drop_zero -> Qt, take_of_length_le -> Qu, getElem?_eq_some_iff -> Qv, map_append -> Qy, mem_of_getElem? -> Qz
open _root_.Option renaming map_some -> Qc
open _root_.Nat renaming zero_le -> Qd, mul_one -> Qg, le_refl -> Qh, sub_zero -> Qk, zero_add -> Qo, le_trans -> Ja
open _root_.Array renaming length_toList -> Qf, getElem?_eq_some_iff -> Qj, getElem?_append_left -> Qm, getElem?_modify -> Qn, toList_extract -> Qr, getElem?_toList -> Qw, getElem?_eq_getElem -> Qx
open Go.IntWalk renaming u64_in -> Qi, i64_in -> Ql
theorem zLg (ws : List Int) (x : Int) (v : Value) (w : World) (hl : ws.length <= 100000) (hs : ws.Pairwise (· < ·)) (hx : x ∈ ws) (hr : Rd w v (ws.map (.int .i64))) :
  Calls Tryz.prog 165 #[v, .int .i64 x, .func (.func 153) #[] #[]] w fun e w' => e = .returned (.tuple #[.int .i64 (placeT ws x : Nat), .bool true]) ∧ Below w.heap.size w w' := by
 obtain ⟨va, vc, rfl⟩ := zAh hr
 obtain ⟨n, hn⟩ : ∃ n, n = ws.length := ⟨_, rfl⟩
 rw [Qb, <- hn] at hr ⊢
 rw [<- hn] at hl
 have HN := hid hn
 have HR := hid hr
 obtain ⟨p, hp⟩ : ∃ p, p = placeT ws x := ⟨_, rfl⟩
 have hpn : p < n := by rw [hp, hn]; exact zBh hs hx
 have HPX := hid (show ws[p]? = some x from by rw [hp]; exact zCb hs hx)
 have HUP := hid (fun (i j : Nat) (a b : Int) (h : i < j) (ha : ws[i]? = some a) (hb : ws[j]? = some b) => zCa hs h ha hb)
 rw [<- hp]
 clear hn hr hs hx hp
 go_enter Tryz.func165, Tryz.ntmps165
 go_wp2_with fail
 go_loopw [9, 10] (fun a c wr => ∃ i j : Nat, i <= p ∧ p <= j ∧ j <= n ∧ a = .int .i64 (i : Int) ∧ c = .int .i64 (j : Int) ∧ Below w.heap.size w wr) (fun a c _ => (intOf c).toNat - (intOf a).toNat)
 case atStart => exact ⟨0, n, Qd _, by omega, Qh _, rfl, rfl, Qa _ _⟩
 case round =>
  obtain ⟨i, j, hip, hpj, hjn, rfl, rfl, hb⟩ := hrel
  have HB := hid hb
  have hcl := (zAu (HR.out.kept hb)).2
  obtain ⟨b, off, rfl, hcell⟩ := hcl (by omega)
  by_cases hlt : i < j
  ·obtain ⟨H, hH⟩ : ∃ H, H = (i + j) / 2 := ⟨_, rfl⟩
   have h1 : i <= H ∧ H < j := by omega
   obtain ⟨hiH, hHj⟩ := h1
   have hHn : H < n := by omega
   have hHni : (H : Int) < (n : Int) := by omega
   have hH0 : (0 : Int) <= (H : Int) := by omega
   have e1 : IntKind.i64.wrap ((i : Int) + (j : Int)) = (i : Int) + (j : Int) := Ql _ (by omega)
   have e2 : IntKind.u64.wrap ((i : Int) + (j : Int)) = (i : Int) + (j : Int) := Qi _ (by omega)
   have e3 : ((i : Int) + (j : Int)) / 2 = (H : Int) := by rw [hH]; omega
   have e4 : IntKind.i64.wrap (H : Int) = (H : Int) := Ql _ (by omega)
   have hx1 := hcell H hHn
   have hz1 := getD_at (l := ws) (q := H) (by rw [<- HN.out]; exact hHn)
   obtain ⟨z, hz⟩ : ∃ z, z = ws.getD H 0 := ⟨_, rfl⟩
   rw [<- hz] at hx1 hz1
   have HX := hid hz1
   clear hz hz1 hcell hcl hb hH
   have hij2 : (i : Int) < (j : Int) := by omega
   by_cases hc : z < x
   ·have HCZ := hid (zCc z x (-1) (by unfold cmpZ; rw [if_pos hc]) wr)
    have hHp : H < p := by
     rcases Nat.lt_trichotomy H p with h | h | h
     ·exact h
     ·have h2 := HX.out
      rw [h, HPX.out] at h2
      have := Option.some.inj h2
      omega
     ·have := HUP.out p H x z h HPX.out HX.out
      omega
    clear hc
    go_wp2_with fail
    refine HCZ.out.mono ?_
    rintro e w2 ⟨rfl, rfl⟩
    go_wp2_with fail
    go_roundw
    case rel => exact ⟨H + 1, j, by omega, hpj, hjn, by go_num, rfl, HB.out⟩
    case measure => simp [intOf]; omega
   ·have hHp : p <= H := by
     rcases Nat.lt_or_ge H p with h | h
     ·exact absurd (HUP.out H p z x h HX.out HPX.out) hc
     ·exact h
    by_cases hc2 : z = x
    ·have HCZ := hid (zCc z x 0 (by unfold cmpZ; rw [if_neg hc, if_neg (by omega)]) wr)
     clear hc hc2
     go_wp2_with fail
     refine HCZ.out.mono ?_
     rintro e w2 ⟨rfl, rfl⟩
     go_wp2_with fail
     go_roundw
     case rel => exact ⟨i, H, hip, hHp, by omega, rfl, rfl, HB.out⟩
     case measure => simp [intOf]; omega
    ·have HCZ := hid (zCc z x 1 (by unfold cmpZ; rw [if_neg hc, if_pos (by omega)]) wr)
     clear hc hc2
     go_wp2_with fail
     refine HCZ.out.mono ?_
     rintro e w2 ⟨rfl, rfl⟩
     go_wp2_with fail
     go_roundw
     case rel => exact ⟨i, H, hip, hHp, by omega, rfl, rfl, HB.out⟩
     case measure => simp [intOf]; omega
  ·have hij2 : i = p := by omega
   have hij3 : j = p := by omega
   subst hij3
   subst hij2
   have hijn : ¬ (i : Int) < (i : Int) := by omega
   have hini : (i : Int) < (n : Int) := by omega
   have hi0 : (0 : Int) <= (i : Int) := by omega
   have hx1 := hcell i hpn
   have hz1 := getD_at (l := ws) (q := i) (by rw [<- HN.out]; exact hpn)
   have hzx : ws.getD i 0 = x := by rw [HPX.out] at hz1; exact (Option.some.inj hz1).symm
   rw [hzx] at hx1
   have HCZ := hid (zCc x x 0 (zE4 x) wr)
   clear hzx hz1 hcell hcl hb
   go_wp2_with fail
   refine HCZ.out.mono ?_
   rintro e w2 ⟨rfl, rfl⟩
   go_wp2_with fail
   go_ret2
   exact ⟨rfl, HB.out⟩
open Go.Shelf Go.Sort in
theorem ltZ (x y : Int) : ltOf cmpZ x y = decide (x < y) := by
 unfold ltOf cmpZ
 by_cases h1 : x < y
 ·simp [h1]
 ·by_cases h2 : y < x <;> simp [h1, h2]
open Go.Shelf Go.Sort in
theorem swoZ : SWO (ltOf cmpZ) where
 irrefl x := by rw [ltZ]; simp
 trans x y z h1 h2 := by rw [ltZ] at *; simp at *; omega
 ntrans x y z h1 h2 := by rw [ltZ] at *; simp at *; omega
open Go.Shelf Go.Sort in
theorem zPp (w : World) (g m : Nat) (cur : List Value) (T : TypeId) (d : Array Int) (os : Array Obj) (hg : w.heap[g]? = some (.cells cur.toArray T (0, 0))) (hd : d.size <= cur.length) :
  (sortWorld (Value.int .i64) w g 0 m d os).heap[g]? = some (.cells (d.toList.map (Value.int .i64) ++ cur.drop d.size).toArray T (0, 0)) := by
 have hlt := (Qj.1 hg).1
 unfold sortWorld putRow mapBlock grow Go.Sort.ahead
 simp only
 rw [Qm (by simpa using hlt), Qn, if_pos rfl, hg, Qc]
 unfold onCells
 simp only
 congr 2
 unfold putCells
 apply Array.ext_getElem?
 intro k
 rw [Array.getElem?_mapIdx]
 simp only [List.getElem?_toArray, Qd, true_and, Qo, Qk]
 by_cases hk : k < d.size
 ·rw [List.getElem?_append_left (by simpa using hk), Qp, Qe (l := d.toList) (by simpa using hk), Qe (l := cur) (by omega), Qc, Qc, if_pos hk, getElem!_pos d k hk, Array.getElem_toList]
 ·rw [List.getElem?_append_right (by simpa using hk), List.getElem?_drop]
  simp only [Qb, Qf]
  rw [show d.size + (k - d.size) = k by omega]
  rcases h : cur[k]? with _ | u
  ·rfl
  ·rw [Qc, if_neg hk]
open Go.Shelf Go.Sort in
theorem zN3 (w : World) (g m : Nat) (d : Array Int) (os : Array Obj) : w.grownBy (sortWorld (Value.int .i64) w g 0 m d os) (some g) := by
 refine ⟨rfl, rfl, rfl, ?_, fun k hk hne => ?_⟩
 ·unfold sortWorld putRow mapBlock grow Go.Sort.ahead
  simp
 ·unfold sortWorld putRow mapBlock grow Go.Sort.ahead
  simp only
  rw [Qm (by simpa using hk), Qn, if_neg (fun e => hne (by rw [e]))]
open Go.Shelf Go.Sort in
theorem zN4 (xs : List Int) (base g cap : Nat) (w : World) (hl : xs.length <= 100000) (hown : OwnI base w (.slice (some ⟨g, 0, none⟩) xs.length cap) xs) :
  Calls Tryz.prog 162 #[.slice (some ⟨g, 0, none⟩) xs.length cap, .func (.func 153) #[] #[]] w fun e w' => e = .returned (.tuple #[]) ∧ ∃ ys : List Int, ys.length = xs.length ∧ ys.Perm xs ∧ (∀ (i : Nat) (a b : Int), ys[i]? = some a -> ys[i + 1]? = some b -> a <= b) ∧ OwnI base w' (.slice (some ⟨g, 0, none⟩) xs.length cap) ys ∧ w.grownBy w' (some g) := by
 obtain ⟨cur, hg, hnc, hcm, hcl, hct, hb⟩ := zCo hown
 have eg : ∀ args w, (callFunc 153 args).run Tryz.prog w = .ok (.enter 153 args) w := enters_of Tryz.func153 (by kernel_rfl) rfl
 have hH : Holds (Value.int .i64) w g 0 xs.toArray := fun j hj => by
  have hj2 : j < xs.length := by simpa using hj
  rw [Qo]
  refine ⟨?_, World.ownsRow.frozenAt hown j⟩
  rw [World.ownsRow.cellAt hown j (by omega), Qp, Qe hj2, Qc, getElem!_pos xs.toArray j hj]
  rfl
 have hcon := Any.slices_SortFunc Tryz.sortI (Value.int .i64) (fun _ => rfl) cmpZ swoZ 153 #[] g 0 cap xs.toArray w eg (CmpReads.lays fun m os dk _ x y => (zCc x y _ rfl _).mono fun e w' h => ⟨h.1, 0, h.2⟩) hH (Qj.1 hg).1 (by simp; omega)
 change Calls Tryz.prog 162 _ _ _ at hcon
 rw [Qq] at hcon
 refine hcon.mono ?_
 rintro e w' ⟨he, d', m, os, hp, hs, rfl⟩
 have hsz : d'.size = xs.length := by rw [hp.1, Qq]
 refine ⟨he, d'.toList, by simpa using hsz, ?_, fun i a b ha hb2 => ?_, ?_, zN3 w g m d' os⟩
 ·have h := hp.2.2
  rw [Qr, Qr] at h
  have e1 : d'.toList.extract 0 xs.length = d'.toList := by rw [Qs, Qt, Qk]; exact Qu (by simp; omega)
  have e2 : xs.toArray.toList.extract 0 xs.length = xs := by rw [Qs, Qt, Qk]; exact Qu (by simp)
  rw [e1, e2] at h
  exact h
 ·have hi2 := (Qv.1 hb2).1
  rw [Qf] at hi2
  have h := hs i (i + 1) (Qd _) (by omega) (by omega)
  rw [ltZ, getElem!_pos d' (i + 1) hi2, getElem!_pos d' i (by omega), decide_eq_false_iff_not] at h
  rw [Qw, Qx (by omega)] at ha
  rw [Qw, Qx hi2] at hb2
  have := Option.some.inj ha
  have := Option.some.inj hb2
  omega
 ·rw [Qg] at hcl hct
  have hh := zPp w g m cur 2 d' os hg (by rw [hsz, hcl]; exact hnc)
  have hle : xs.length <= cur.length := by rw [hcl]; exact hnc
  refine OwnI.of (n := xs.length) (zDk hh hnc hcm ?_ ?_ hb)
  ·rw [List.length_append, Qb, List.length_drop, Qf, hsz, Qg, <- hcl]; omega
  ·rw [Qg, List.take_left' (by rw [Qb, Qf, hsz])]
theorem zLh (w : World) : Calls Tryz.prog 194 #[.int .u64 0] w fun e w' => e = .returned (.int .i64 0) ∧ w' = w := by
 have HL := hid (Tryz.bits_Len64 0 w (by omega) (by omega))
 go_enter Tryz.func194, Tryz.ntmps194
 go_wp2_with fail
 refine HL.out.mono ?_
 rintro e w2 ⟨rfl, rfl⟩
 go_wp2_with fail
 go_ret
 exact ⟨rfl, rfl⟩
theorem zFp (fv : Value) (w : World) : Calls Tryz.prog 198 #[.slice none 0 0, .int .i64 0, .int .i64 0, fv] w fun e w' => e = .returned (.tuple #[]) ∧ w' = w := by
 go_enter Tryz.func198, Tryz.ntmps198
 go_wp2_with fail
 refine wp_loop_rounds 1 ?_
 rw [rounds_succ]
 go_wp2_with fail
 go_end0
 exact ⟨rfl, rfl⟩
theorem zIb (fv : Value) (w : World) : Calls Tryz.prog 193 #[.slice none 0 0, .int .i64 0, .int .i64 0, .int .i64 0, fv] w fun e w' => e = .returned (.tuple #[]) ∧ w' = w := by
 have HI := hid (zFp fv w)
 go_enter Tryz.func193, Tryz.ntmps193
 go_wp2_with fail
 refine wp_loop_rounds 1 ?_
 rw [rounds_succ]
 go_wp2_with fail
 refine HI.out.mono ?_
 rintro e w2 ⟨rfl, rfl⟩
 go_wp2_with fail
 (try simp only [Exit.inBlock, Exit.then])
 refine bodyPost_ret (results_none rfl _ _ _) rfl ?_
 exact ⟨rfl, rfl⟩
theorem zN5 (w : World) : Calls Tryz.prog 162 #[.slice none 0 0, .func (.func 153) #[] #[]] w fun e w' => e = .returned (.tuple #[]) ∧ w' = w := by
 have HL := hid (zLh w)
 have HP := hid (zIb (.func (.func 153) #[] #[]) w)
 go_enter Tryz.func162, Tryz.ntmps162
 go_wp2_with fail
 refine HL.out.mono ?_
 rintro e w2 ⟨rfl, rfl⟩
 go_wp2_with fail
 refine HP.out.mono ?_
 rintro e w3 ⟨rfl, rfl⟩
 go_wp2_with fail
 go_end0
 exact ⟨rfl, rfl⟩
theorem zPq (xs : List Int) (base : Nat) (v : Value) (w : World) (hl : xs.length <= 100000) (hown : OwnI base w v xs) :
  Calls Tryz.prog 162 #[v, .func (.func 153) #[] #[]] w fun e w' => e = .returned (.tuple #[]) ∧ ∃ ys : List Int, ys.length = xs.length ∧ ys.Perm xs ∧ (∀ (i : Nat) (a b : Int), ys[i]? = some a -> ys[i + 1]? = some b -> a <= b) ∧ OwnI base w' v ys ∧ w.grownBy w' v.ownBlock := by
 rcases hown.2 with ⟨hv, h0⟩ | ⟨g, cap, cur, hv, _⟩
 ·subst hv
  refine (zN5 w).mono ?_
  rintro e w' ⟨he, rfl⟩
  exact ⟨he, xs, rfl, List.Perm.refl _, (fun i a b ha _ => by have := (Qv.1 ha).1; omega), hown, World.grownBy.refl _ _⟩
 ·subst hv
  exact zN4 xs base g cap w hl hown
theorem zM5 (q : Nat) (w : World) (hq : q <= 100000) : Calls Tryz.prog 46 #[.slice none 0 0, .int .u64 (q : Int)] w fun e w' => ∃ ao cap, e = .returned (.slice ao (numC q).length cap) ∧ OwnB w.heap.size w' (.slice ao (numC q).length cap) (numC q) ∧ Below w.heap.size w w' := by
 refine (zEj (.slice none 0 0) [] q w (Rd.nil w) (by decide) (by omega)).mono ?_
 rintro e w3 ⟨ao3, cap3, rfl, hown3, hb3⟩
 have e1 : ((([] : List Nat) ++ numC q).map u8v).length = (numC q).length := by simp
 rw [e1] at hown3
 rw [e1]
 exact ⟨ao3, cap3, rfl, OwnB.of (by simpa using hown3), hb3⟩
theorem zHd (l : List Int) (lv : Value) (w : World) (hI : ∀ n ∈ l, I64 n) (hl : l.length <= 65535) (hr : Rd w lv (l.map (.int .i64))) :
  Calls Tryz.prog 128 #[.agg #[.func (.func 154) #[] #[], .func (.func 155) #[] #[], .func (.func 153) #[] #[], .func (.func 156) #[] #[]], lv] w fun e w' => ∃ v, e = .returned v ∧ OwnB w.heap.size w' v (dictT l) ∧ Below w.heap.size w w' := by
 obtain ⟨ao, cap, rfl⟩ := zAh hr
 obtain ⟨n, hn⟩ : ∃ n, n = l.length := ⟨_, rfl⟩
 rw [Qb, <- hn] at hr ⊢
 rw [<- hn] at hl
 have HR := hid hr
 have HN := hid hn
 have HI := hid hI
 clear hr hn hI
 go_enter Tryz.func128, Tryz.ntmps128
 go_upto_region 1 with (fail)
 obtain ⟨W1, hW1⟩ : ∃ W1 : World, W1 = w.alloc (.cells #[.func (.func 154) #[] #[], .func (.func 155) #[] #[], .func (.func 153) #[] #[], .func (.func 156) #[] #[]] 185) := ⟨_, rfl⟩
 obtain ⟨X, hX⟩ : ∃ X, X = w.heap.size := ⟨_, rfl⟩
 have hxb : W1.heap[X]? = some (.cells #[.func (.func 154) #[] #[], .func (.func 155) #[] #[], .func (.func 153) #[] #[], .func (.func 156) #[] #[]] 185 (0, 0)) := by rw [hW1, hX]; exact heap_alloc_new w _
 have HB1 := hid (show Below w.heap.size w W1 by rw [hW1]; exact zAd w _)
 rw [<- hW1, <- hX]
 have HXX := hid (show X = w.heap.size ∧ X < W1.heap.size from ⟨hX, (Qj.1 hxb).1⟩)
 have HX := hid fun (w' : World) (h : Below W1.heap.size W1 w') => zAv ((h.block X HXX.out.2).trans hxb)
 have HXB := hid fun (w' : World) (h : Below W1.heap.size W1 w') => ((h.block X HXX.out.2).trans hxb)
 clear hW1 hX hxb
 have HR1 := hid (HR.out.kept HB1.out)
 have HCL := hid (zN1 l (.slice ao n cap) W1 (by rw [<- HN.out]; omega) HR1.out)
 go_wp2_with fail
 refine HCL.out.mono ?_
 rintro e w2 ⟨v1, rfl, hown2, hb2⟩
 have HO2 := hid hown2
 have HB2 := hid hb2
 have cf2 := (HX.out w2 hb2).2.2.1
 have HSO := hid (zPq l W1.heap.size v1 w2 (by rw [<- HN.out]; omega) hown2)
 clear hown2 hb2
 go_wp2_with fail
 refine HSO.out.mono ?_
 rintro e w3 ⟨rfl, ys, hyl, hyp, hys, hown3, hg3⟩
 have HB3 := hid (zAk HB2.out HB2.out.size hg3 (zD4 HO2.out))
 have HWT := hid (zFo (l := l) (xs := ys) (fun z => hyp.mem_iff) hys)
 have HCO := hid (zLf ys W1.heap.size X v1 w3 (by rw [hyl, <- HN.out]; omega) hown3 (HXB.out w3 HB3.out) (fun e => by have h1 := zD4 HO2.out X e; have h2 := HXX.out.2; omega))
 have HO3 := hid hown3
 clear cf2 hyl hyp hys hown3 hg3
 go_wp2_with fail
 refine HCO.out.mono ?_
 rintro e w4 ⟨v4, rfl, hown4, hg4, hv4⟩
 rw [HWT.out] at hown4
 have HB4 := hid (zAk HB3.out HB3.out.size hg4 (zD4 HO3.out))
 obtain ⟨wo, wdc, rfl⟩ := hown4.shape
 obtain ⟨kw, hkw⟩ : ∃ kw, kw = (wordsT l).length := ⟨_, rfl⟩
 rw [<- hkw]
 have hkwn : kw <= n := by rw [hkw, HN.out]; exact zA9 l
 rw [<- hkw] at hown4
 obtain ⟨W4, hW4⟩ : ∃ W4, W4 = w4 := ⟨_, rfl⟩
 rw [<- hW4] at hown4 HB4 ⊢
 have HO4 := hid hown4
 have HKW := hid hkw
 have HRW := hid (show Rd W4 (.slice wo kw wdc) ((wordsT l).map (.int .i64)) from OwnI.rd hown4)
 have hsz4 := HB4.out.size
 have c4 := HX.out W4 HB4.out
 obtain ⟨c40, c41, c42, c43⟩ := c4
 have HXC := hid fun (w' : World) (h : Below W4.heap.size W4 w') => HX.out w' (HB4.out.trans (h.mono hsz4))
 obtain ⟨kn, hkn⟩ : ∃ kn, kn = (numC kw).length := ⟨_, rfl⟩
 obtain ⟨kp, hkp⟩ : ∃ kp, kp = (plainT (wordsT l)).length := ⟨_, rfl⟩
 have HNU := hid (show ∀ w0 w', Below w0.heap.size w0 w' -> Below W4.heap.size W4 w' -> Calls Tryz.prog 46 #[.slice none 0 0, .int .u64 (kw : Int)] w' fun e w'' => ∃ ao5 cap5, e = .returned (.slice ao5 kn cap5) ∧ w''.ownsRow W4.heap.size 5 1 (.slice ao5 kn cap5) kn ((numC kw).map u8v) ∧ Below w0.heap.size w0 w'' ∧ Below W4.heap.size W4 w'' from fun w0 w' h0 h4 => by
  refine (zM5 kw w' (by omega)).mono ?_
  rintro e w'' ⟨ao5, cap5, he, ho, hb⟩
  rw [<- hkn] at he ho
  exact ⟨ao5, cap5, he, by have h := zAo ho h4.size; rw [<- hkn] at h; exact h, zAa h0 hb, zAa h4 hb⟩)
 have HPL := hid (show ∀ w0 w', Below w0.heap.size w0 w' -> Below W4.heap.size W4 w' -> Calls Tryz.prog 125 #[.agg #[.func (.func 154) #[] #[], .func (.func 155) #[] #[], .func (.func 153) #[] #[], .func (.func 156) #[] #[]], .slice wo kw wdc] w' fun e w'' => ∃ ao6 cap6, e = .returned (.slice ao6 kp cap6) ∧ Rd w'' (.slice ao6 kp cap6) ((plainT (wordsT l)).map u8v) ∧ Below w0.heap.size w0 w'' ∧ Below W4.heap.size W4 w'' from fun w0 w' h0 h4 => by
  refine (zDl (wordsT l) _ w' (fun z hz => HI.out z ((zAx l z).1 hz)) (by rw [<- HKW.out]; omega) (HRW.out.kept h4)).mono ?_
  rintro e w'' ⟨v, he, ho, hb⟩
  obtain ⟨ao6, cap6, rfl⟩ := ho.shape
  have hrd := OwnB.rd ho
  rw [<- hkp] at he hrd
  exact ⟨ao6, cap6, he, hrd, zAa h0 hb, zAa h4 hb⟩)
 have HKP := hid hkp
 have HKN := hid hkn
 have HKNL := hid (show kn <= 10 from by rw [hkn]; exact (zA5 9 kw).1)
 have HKPL := hid (show kp <= 1000000 from by rw [hkp]; have := zA3 (wordsT l); rw [<- hkw] at this; omega)
 have HONP := hid (zAr (zAq (plainT (wordsT l))))
 have hwkw : IntKind.u64.wrap (kw : Int) = (kw : Int) := Qi _ (by omega)
 have HGC := hid (show ∀ w', Below W4.heap.size W4 w' -> Below w.heap.size w w' from fun w' h => HB1.out.trans ((HB4.out.trans (h.mono hsz4)).mono HB1.out.size))
 have hS4 : Below W4.heap.size W4 W4 := Qa _ _
 clear hown4 hg4 hv4 hW4 hkw hkn hkp HO2 HO3 HB2 HB3 HSO HCO HCL HWT HXB
 go_upto_region 4 with (fail)
 go_cut [6] (fun v wx => ∃ ao7 cap7, v = .slice ao7 (kn + kp) cap7 ∧ wx.ownsRow W4.heap.size 5 1 (.slice ao7 (kn + kp) cap7) (kn + kp) ((numC kw ++ plainT (wordsT l)).map u8v) ∧ Below W4.heap.size W4 wx)
 case first =>
  go_region_law
   (first
    | (go_simp; go_at_call 46; have h6 := hS6; refine (HNU.out w6 _ ?_ ?_).mono ?_; (repeat (first | assumption | exact Qa _ _ | refine zAj ?_ _ | refine zAn ?_)); (repeat (first | assumption | exact Qa _ _ | refine zAj ?_ _ | refine zAn ?_)); rintro e w5 ⟨ao5, cap5, rfl, hown5, hb65, hS5⟩; have hT : Below w6.heap.size w6 w5 := hb65; have cf : w5.cell? ⟨X, 0, none⟩ = some (.func (.func 154) #[] #[]) := (HXC.out w5 hS5).1)
    | (go_simp; go_at_call 46; refine (HNU.out W4 _ ?_ ?_).mono ?_; (repeat (first | assumption | exact Qa _ _ | refine zAj ?_ _ | refine zAn ?_)); (repeat (first | assumption | exact Qa _ _ | refine zAj ?_ _ | refine zAn ?_)); rintro e w5 ⟨ao5, cap5, rfl, hown5, _, hS5⟩; have hd0 := (HXC.out w5 hS5).1; have hd1 := (HXC.out w5 hS5).2.1; have hd2 := (HXC.out w5 hS5).2.2.1; have hd3 := (HXC.out w5 hS5).2.2.2)
    | (go_simp; go_at_call 125; have h5 := hS5; refine (HPL.out w5 _ ?_ ?_).mono ?_; (repeat (first | assumption | exact Qa _ _ | refine zAj ?_ _ | refine zAn ?_)); (repeat (first | assumption | exact Qa _ _ | refine zAj ?_ _ | refine zAn ?_)); rintro e w6 ⟨ao6, cap6, rfl, hown6, hb56, hS6⟩; have hU : Below w5.heap.size w5 w6 := hb56)
    | (go_simp; go_at_call 125; refine (HPL.out W4 _ ?_ ?_).mono ?_; (repeat (first | assumption | exact Qa _ _ | refine zAj ?_ _ | refine zAn ?_)); (repeat (first | assumption | exact Qa _ _ | refine zAj ?_ _ | refine zAn ?_)); rintro e w6 ⟨ao6, cap6, rfl, hown6, _, hS6⟩)
    | (have h := hT; (refine zBc zBf (by rfl) _ _ (by rfl) W4.heap.size (.slice ao5 kn cap5) kn ((numC kw).map u8v) (by rfl) hown5 (.slice ao6 kp cap6) (((plainT (wordsT l)).map u8v).map fun u => [u]) (by rfl) (zAs (show Rd _ (.slice ao6 kp cap6) ((plainT (wordsT l)).map u8v) from by exact Rd.kept hown6 hb65)) HONP.out (by simp; have := HKPL.out; have := HKNL.out; have := HKP.out; omega) hS5.size (kn + kp) (by simp; exact HKP.out.symm) ?_; intro ao7 cap7 w7 hown7 hgrow7 hnew7; have hS7 : Below W4.heap.size W4 w7 := zAk hS5 hS5.size (show World.grownBy _ w7 (Value.slice ao5 kn cap5).ownBlock from hgrow7) (zAg hown5)))
    | (have h := hU; (refine zBc zBf (by rfl) _ _ (by rfl) W4.heap.size (.slice ao5 kn cap5) kn ((numC kw).map u8v) (by rfl) (hown5.kept (zAb hb56 none) (by cases h : (Value.slice ao5 kn cap5).ownBlock with | none => exact .inl rfl | some g => exact .inr (by simp))) (.slice ao6 kp cap6) (((plainT (wordsT l)).map u8v).map fun u => [u]) (by rfl) (zAs (show Rd _ (.slice ao6 kp cap6) ((plainT (wordsT l)).map u8v) from by exact Rd.kept hown6 (Qa _ _))) HONP.out (by simp; have := HKPL.out; have := HKNL.out; have := HKP.out; omega) hS6.size (kn + kp) (by simp; exact HKP.out.symm) ?_; intro ao7 cap7 w7 hown7 hgrow7 hnew7; have hS7 : Below W4.heap.size W4 w7 := zAk hS6 hS6.size (show World.grownBy _ w7 (Value.slice ao5 kn cap5).ownBlock from hgrow7) (zAg hown5)))
    | fail)
  all_goals
   go_wp2_with fail
   go_meet
   exact ⟨ao7, cap7, rfl, by rw [Qy]; rw [zAp] at hown7; exact hown7, hS7⟩
 case rest =>
  obtain ⟨ao7, cap7, rfl, hown7, hbel7⟩ := hcut
  obtain ⟨W7, hW7⟩ : ∃ W7 : World, W7 = wc := ⟨_, rfl⟩
  rw [<- hW7] at hown7 hbel7 ⊢
  clear hW7
  have HO7 := hid hown7
  have HB7 := hid (HGC.out W7 hbel7)
  have HRW7 := hid (HRW.out.kept hbel7)
  have HXC7 := hid (show ∀ w', Below W7.heap.size W7 w' -> w'.cell? ⟨X, 2, none⟩ = some (.func (.func 153) #[] #[]) from fun w' h => (HXC.out w' (hbel7.trans (h.mono hbel7.size))).2.2.1)
  have HSZ7 := hid (show w.heap.size <= W4.heap.size from (HGC.out W4 hS4).size)
  have HS47 := hid hbel7.size
  obtain ⟨ei, he1, he2, he3, he4⟩ := info_parts zH6
  obtain ⟨W8, hmk, hown8, hg8⟩ := run_make_full (P := Tryz.prog) W7 W7.heap.size 159 105 ei (.int .u64 0) 1 Tryz.underlying159 he1 he2 he3 .i64 .i64 n (by rw [he4]; omega) (by unfold maxLen; omega) (Qh _)
  obtain ⟨G, hG⟩ : ∃ G, G = W7.heap.size := ⟨_, rfl⟩
  rw [<- hG] at hmk hown8
  have HO8 := hid (show W8.ownsRow G 105 1 (.slice (some ⟨G, 0, none⟩) n n) n ((fillT (placeT (wordsT l)) l 0 n 0).map u64v) from by
   rw [show (Value.int .u64 0).cells = #[Value.int .u64 0] from rfl, Qg, toList_madeCells_one] at hown8
   rw [zEf, List.map_replicate]
   exact hown8)
  have HB8 := hid (show Below W7.heap.size W7 W8 from ⟨hg8.os, hg8.tape, hg8.output, hg8.size, fun i hi => hg8.block i hi (by simp)⟩)
  have HGG := hid hG
  clear hown8 hg8 he1 he2 he3 he4 hG hown7 hbel7 c40 c41 c42 c43 hS4 HNU HPL HXC HRW HGC HONP
  go_upto_region 6 with (fail)
  clear hmk
  go_wp2_with fail
  go_loopw [34] (fun i wr => ∃ q : Nat, q <= n ∧ i = .int .i64 (q : Int) ∧ wr.ownsRow G 105 1 (.slice (some ⟨G, 0, none⟩) n n) n ((fillT (placeT (wordsT l)) l 0 n q).map u64v) ∧ Below W7.heap.size W7 wr) (fun i _ => n - (intOf i).toNat)
  case atStart => exact ⟨0, Qd _, rfl, HO8.out, HB8.out⟩
  case round =>
   obtain ⟨q, hq, rfl, hown, hbel⟩ := hrel
   have HO := hid hown
   have HBL := hid hbel
   clear hown hbel
   by_cases hlt : q < n
   ·have hlti : (q : Int) < (n : Int) := by omega
    have hq0 : (0 : Int) <= (q : Int) := by omega
    have hcp := (zAu (HR.out.kept (HB7.out.trans (HBL.out.mono HB7.out.size)))).2
    obtain ⟨b, off, rfl, hcell⟩ := hcp (by omega)
    have hx := hcell q hlt
    obtain ⟨p, hp⟩ : ∃ p, p = l.getD q 0 := ⟨_, rfl⟩
    rw [<- hp] at hx
    have hat : l[q]? = some p := by rw [hp]; exact getD_at (by rw [<- HN.out]; exact hlt)
    have HD := hid (zEe (placeT (wordsT l)) 0 HN.out.symm hlt hat)
    have hmem : p ∈ wordsT l := (zAx l p).2 (Qz hat)
    have HBS := hid (zLg (wordsT l) p (.slice wo kw wdc) wr (by rw [<- HKW.out]; omega) (zBg l) hmem (HRW7.out.kept HBL.out))
    have hpl := zBh (zBg l) hmem
    obtain ⟨t, ht⟩ : ∃ t : Nat, t = placeT (wordsT l) p := ⟨_, rfl⟩
    rw [<- ht, <- HKW.out] at hpl
    rw [<- ht] at HBS
    have htw : IntKind.u64.wrap (t : Int) = (t : Int) := Qi _ (by omega)
    have HTT := hid ht
    have cx := HXC7.out wr HBL.out
    clear hcp hcell hp hat ht hmem
    go_wp2_with fail
    refine HBS.out.mono ?_
    rintro e w10 ⟨rfl, hb10⟩
    have HO10 := hid (show w10.ownsRow G 105 1 (.slice (some ⟨G, 0, none⟩) n n) n ((fillT (placeT (wordsT l)) l 0 n q).map u64v) from HO.out.kept (zAb hb10 none) (.inr (by simp [Value.ownBlock])))
    have HB10 := hid (zAa HBL.out hb10)
    have hcG2 : ∃ u, w10.cell? ⟨G, q, none⟩ = some u := by
     rw [HO10.out.cellAt q (by omega)]
     exact ⟨_, Qe (by rw [Qb, zE9 _ _ HN.out.symm hq]; exact hlt)⟩
    obtain ⟨uG, hcG3⟩ := hcG2
    have hfG := HO10.out.frozenAt q
    have hst := HO10.out.stored q (.int .u64 (t : Int))
    have HST := hid hst
    clear hst hb10 hx cx
    go_wp2_with fail
    go_roundw
    case rel =>
     refine ⟨q + 1, by omega, by go_num, ?_, ?_⟩
     ·rw [HD.out, <- HTT.out, List.map_set]
      have h := HST.out.1
      exact h
     ·exact HB10.out.setCell (p := ⟨G, q, none⟩) (by show _ <= G; rw [HGG.out]; exact Qh _) _
    case measure => simp [intOf]; omega
   ·have hqn : q = n := by omega
    subst hqn
    have hlti : ¬ (q : Int) < (q : Int) := by omega
    have HUR := hid (show Rd wr (.slice (some ⟨G, 0, none⟩) q q) ((l.map (placeT (wordsT l))).map u64v) from by
     have h := Rd.of_owns HO.out
     rw [zFa _ _ HN.out.symm] at h
     exact h)
    obtain ⟨us, hus⟩ : ∃ us, us = l.map (placeT (wordsT l)) := ⟨_, rfl⟩
    rw [<- hus] at HUR
    have HLEN := hid (show us.length = q by rw [hus, Qb, HN.out])
    have H64 := hid (show ∀ i, us.getD i 0 < 18446744073709551616 from fun i => by
     rw [List.getD_eq_getElem?_getD]
     cases hz : us[i]? with
     | none => decide
     | some x =>
      rw [hus] at hz
      obtain ⟨m, hm, rfl⟩ := List.mem_map.1 (Qz hz)
      have h1 := zBh (zBg l) ((zAx l m).2 hm)
      rw [<- HKW.out] at h1
      show placeT (wordsT l) m < _
      omega)
    have HUS := hid hus
    have HPW := hid (zEd kw (by omega) wr)
    have hbl := (bitLen_le (kw - 1) (by omega)).1
    obtain ⟨wd, hwd⟩ : ∃ wd, wd = Lib.bitLen (kw - 1) := ⟨_, rfl⟩
    rw [<- hwd] at hbl HPW
    have HWD := hid hwd
    have HPA := hid (zF7 (wd : Int) (some ⟨G, 0, none⟩) q q us wr HUR.out H64.out (by omega))
    have hhe : heldN (wd : Int) = wd := zF4 wd hbl
    rw [hhe] at HPA
    have hpkl := zAy wd us
    have hpk2 : wd * us.length <= 64 * 65535 := Nat.mul_le_mul hbl (by rw [HLEN.out]; exact hl)
    obtain ⟨kq, hkq⟩ : ∃ kq, kq = (packB wd us).length := ⟨_, rfl⟩
    have hkql : kq <= 600000 := by rw [hkq, hpkl]; omega
    have HKQ := hid hkq
    have HO9 := hid (show wr.ownsRow W4.heap.size 5 1 (.slice ao7 (kn + kp) cap7) (kn + kp) ((numC kw ++ plainT (wordsT l)).map u8v) from HO7.out.kept (zAb HBL.out none) (by cases h : (Value.slice ao7 (kn + kp) cap7).ownBlock with | none => exact .inl rfl | some g => exact .inr (by simp)))
    clear hus hwd hhe hpkl hpk2 hkq HUR
    go_wp2_with fail
    refine HPW.out.mono ?_
    rintro e w9 ⟨rfl, rfl⟩
    go_wp2_with fail
    refine HPA.out.mono ?_
    rintro e w10 ⟨ao10, cap10, rfl, hown10, hb10⟩
    have HB10 := hid (zAa HBL.out hb10)
    have HR10 := hid (zAs (show Rd w10 (.slice ao10 kq cap10) ((packB wd us).map u8v) from by have := Rd.of_owns hown10; rw [Qb, <- HKQ.out] at this; exact this))
    rw [Qb, <- HKQ.out]
    have HO10 := hid (show w10.ownsRow W4.heap.size 5 1 (.slice ao7 (kn + kp) cap7) (kn + kp) ((numC kw ++ plainT (wordsT l)).map u8v) from HO9.out.kept (zAb hb10 none) (by cases h : (Value.slice ao7 (kn + kp) cap7).ownBlock with | none => exact .inl rfl | some g => exact .inr (by simp)))
    have HON := hid (zAr (zAq (packB wd us)))
    have hsz10 : W4.heap.size <= w10.heap.size := Ja HS47.out HB10.out.size
    have hkpl := HKPL.out
    have hknl := HKNL.out
    clear hown10 hb10 HPA HO9
    go_wp2_with (at_builtin; go_must (refine zAf zBf rfl _ _ rfl W4.heap.size _ _ _ rfl HO10.out _ (((packB wd us).map u8v).map fun u => [u]) rfl HR10.out HON.out (by simp; have := HKQ.out; omega) hsz10 (kn + kp + kq) (by have := HKQ.out; simp; omega) ?_); intro ao11 cap11 w11 hown11 hgrow11 hnew11; have HO11 := hid hown11; have HG11 := hid hgrow11; clear hown11 hgrow11 hnew11)
    go_ret
    have hbw10 : Below w.heap.size w w10 := HB7.out.trans (HB10.out.mono HB7.out.size)
    refine ⟨_, rfl, ?_, zAk hbw10 hbw10.size (show w10.grownBy w11 (Value.slice ao7 (kn + kp) cap7).ownBlock from HG11.out) (fun k hk => Ja HSZ7.out (zAg HO10.out k hk))⟩
    have h := HO11.out
    rw [zAp, <- Qy] at h
    have h2 := OwnB.of (zAo h HSZ7.out)
    have e : dictT l = numC kw ++ plainT (wordsT l) ++ packB wd us := by
     unfold dictT
     rw [<- HKW.out, <- HWD.out, <- HUS.out]
    rw [e]
    exact h2
end Go.Proofs.YtmpgnjhgegbdkaaGreat
