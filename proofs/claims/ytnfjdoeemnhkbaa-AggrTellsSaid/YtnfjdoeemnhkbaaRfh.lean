import Derived.Test.YtnfjdoeemnhkbaaRfg
import Derived.Test.YtnfjdoeemnhkbaaRfj
import Derived.Test.YtnfjdoeemnhkbaaLsix
import Derived.Deep.RegionHeld3
import Derived.Deep.QuietTactic
import Derived.BigQuiet
set_option linter.unusedVariables false
set_option linter.unusedSimpArgs false
set_option maxRecDepth 100000
set_option maxHeartbeats 32000000
open Go.Lib (hid)
namespace Go.Proofs.Ytnfjdoeemnhkbaa
open Go.RowKit Sy
open _root_.List renaming getElem_toArray -> Qa, getElem_cons_succ -> Qb, getElem_cons_zero -> Qc, setIfInBounds_toArray -> Qd, set_cons_zero -> Qe, set_cons_succ -> Qf, length_map -> Qg, mem_singleton -> Qj, map_cons -> Qk, length_append -> Ql, mem_of_getElem? -> Qm, mem_map -> Qn, mem_map_of_mem -> Qo, length_cons -> Qp, length -> Qq, getElem?_map -> Qr, map_map -> Qt, getElem?_eq_getElem -> Qu, getElem?_eq_some_iff -> Qx, length_take -> Qy, mem_cons -> Ja, getElem?_append_left -> Jd, getElem?_append_right -> Je, flatten_cons -> Jf, map_congr_left -> Jg, map_append -> Ji, map_tail -> Jk, length_drop -> Jl, mem_of_mem_take -> Jm, mem_of_mem_drop -> Jn, tail_cons -> Jo, getElem?_drop -> Jp, getElem?_take_of_lt -> Jq
open Go.World renaming block_lt_of_cell? -> Qh
open _root_.Nat renaming le_refl -> Qi, sub_self -> Qv, le_trans -> Qz, lt_or_ge -> Jc, add_zero -> Jh, zero_le -> Jj
open Go.RowKit.Below renaming refl -> Qw
open _root_.Int renaming toNat_natCast -> Jb
open Go renaming heap_alloc_new -> Jr
def RowR (g : Int) (ags : List (Int × Int)) (q : List (List Vc)) (r : List Vc) : Prop := ∃ ts : List Vc, r = (if 0 <= g then [atT (q.headD []) g] else []) ++ ts ∧ ags.map (fun a => totT q a.1 a.2) = ts.map some
def PartR (g : Int) (R : List (List Vc)) (Qs : List (List (List Vc))) : Prop := (0 <= g -> Qs.flatten.Perm R ∧ Parted cmpK (fun r => keyV (atT r g)) Qs) ∧ (g < 0 -> Qs = [R])
def RetG (R : List (List Vc)) (g : Int) (ags : List (Int × Int)) (e : Ending) (w' : World) : Prop := ∃ Qs : List (List (List Vc)), PartR g R Qs ∧
 ((∃ (v : Value) (T : List El), e = .returned (.tuple #[v, .bool true]) ∧ Rd w' v (T.map Prod.fst) ∧ (∀ x ∈ T, RdP w' x.1 x.2) ∧ T.length = Qs.length ∧ ∀ (i : Nat) (q : List (List Vc)) (x : El), Qs[i]? = some q -> T[i]? = some x -> RowR g ags q x.row) ∨
  (e = .returned (.tuple #[.slice none 0 0, .bool false]) ∧ ∃ q ∈ Qs, ∃ a ∈ ags, totT q a.1 a.2 = none))
theorem zN5 {w : World} {sz b o m cap : Nat} {c : List Value} {cs : List (List Value)} (h : RdS w sz (.slice (some ⟨b, o, none⟩) (m + 1) cap) (c :: cs)) : RdS w sz (.slice (some ⟨b, o + sz, none⟩) m (cap - 1)) cs := by
 obtain ⟨ao, cap', hv, hn, hc⟩ := h
 simp only [Qp, Value.slice.injEq] at hv
 obtain ⟨rfl, hm, rfl⟩ := hv
 simp only [Qp] at hn
 refine ⟨some ⟨b, o + sz, none⟩, cap - 1, by rw [show m = cs.length by omega], ⟨(fun h => by cases h), by omega⟩, fun k t ht => ⟨b, o + sz, rfl, fun j u hu => ?_⟩⟩
 obtain ⟨b', o', he, hcell⟩ := hc (k + 1) t (by rw [List.getElem?_cons_succ]; exact ht)
 cases he
 rw [<- hcell j u hu]
 congr 2
 rw [Nat.succ_mul]
 omega
theorem zJi {E P : List El} {a : Int × Int} (h : AgOK E a) (hp : ∀ x ∈ P, x.row ∈ E.map El.row) : AgOK P a := by
 obtain ⟨h1, c, kk, h2, h3, h4⟩ := h
 refine ⟨h1, c, kk, h2, h3, fun x hx => ?_⟩
 obtain ⟨y, hy, he⟩ := Qn.1 (hp x hx)
 obtain ⟨h5, h6⟩ := h4 y hy
 rw [he] at h6
 refine ⟨?_, h6⟩
 have := congrArg Qq he
 unfold El.row at this
 rw [Qg, Qg] at this
 omega
theorem zN6 {a b : (Int × Int) × List Nat} {x y : List ((Int × Int) × List Nat)} (h : lexL cmpK (a :: x) (b :: y) <= 0) : cmpK a b <= 0 := by
 unfold lexL at h
 split at h
 ·rename_i h0; omega
 ·exact h
theorem zG3 {α : Type} : ∀ (Ps : List (List α)), (∀ p ∈ Ps, p ≠ []) -> Ps.length <= Ps.flatten.length
 | [], _ => Jj _
 | p :: Ps, h => by
  have h1 := zG3 Ps fun q hq => h q (List.mem_cons_of_mem _ hq)
  have h2 := List.length_pos_iff.2 (h p List.mem_cons_self)
  rw [Jf, Ql, Qp]
  omega
theorem zJj {Z : List El} {q k : Nat} : ((Z.map fun z => z.row.tail).take k).drop q = ((Z.take k).drop q).map fun z => z.row.tail := by rw [List.map_drop, List.map_take]
theorem zJ9 (ks : List Int) (hk : Kind12 ks) (E : List El) (hkr : KindsR ks (E.map El.row)) (ags : List (Int × Int)) (hl : E.length <= 1000000) (hm6 : ags.length <= 900) (g : Int) (hg : g = -1 ∨ ∃ c : Nat, g = (c : Int) ∧ c < ks.length) (v av : Value) (w : World) (hv : Rd w v (E.map Prod.fst)) (hr : ∀ x ∈ E, RdP w x.1 x.2 ∧ x.2.length <= 500) (hav : RdS w 2 av (ags.map fun a => [.int .i64 a.1, .int .i64 a.2])) (hok : ∀ a ∈ ags, AgOK E a) :
  Calls Try.prog 23 #[v, .int .i64 g, av] w fun e w' => RetG (E.map El.row) g ags e w' ∧ Below w.heap.size w w' := by
 obtain ⟨aa, ac, rfl⟩ := zAl hav
 obtain ⟨m, hm⟩ : ∃ m, m = ags.length := ⟨_, rfl⟩
 have hall := zG2 E ags hl (by omega) v _ w w (Qw _ _) hv (fun x hx => ⟨(hr x hx).1, by have := (hr x hx).2; omega, (hr x hx).1.2⟩) hav hok
 rw [Qg, <- hm] at hav hall ⊢
 rw [<- hm] at hm6
 have HM := hid hm
 have HAV := hid hav
 have HAK := hid hok
 have HR := hid hr
 have HALL := hid hall
 rcases hg with rfl | ⟨c, rfl, hc⟩
 ·clear hm hv hr hav hok hkr hk hall
  go_enter Try.func23, Try.ntmps23
  go_wp2_with fail
  refine HALL.out.mono ?_
  rintro e w2 ⟨hret, hb2⟩
  have HB2 := hid hb2
  rcases hret with ⟨lv, L, rfl, hlo, hlk, htot⟩ | ⟨rfl, a, ha, hno⟩
  ·obtain ⟨la, lc, hlv⟩ := zBz hlo
   obtain ⟨ll, hll⟩ : ∃ ll, ll = L.length := ⟨_, rfl⟩
   rw [<- hll] at hlv hlo
   subst hlv
   have HLL := hid hll
   have HLO := hid hlo
   have HLK := hid hlk
   have HTOT := hid htot
   clear hb2 hlo hlk htot hll HALL
   go_wp2_with fail
   go_ret2
   refine ⟨⟨[E.map El.row], ⟨fun h => by omega, fun _ => rfl⟩, .inl ⟨_, [(.slice la ll lc, L)], rfl, zL5 w2 #[.slice la ll lc] 33 1 [.slice la ll lc] rfl rfl (by decide), fun x hx => ?_, rfl, fun i q x hq hx => ?_⟩⟩, zAe HB2.out _⟩
   ·rw [Qj.1 hx]
    exact RdP.kept (w := w2) ⟨zCb HLO.out (by rw [Qg]; exact HLL.out) (fun t ht => by obtain ⟨y, _, rfl⟩ := Qn.1 ht; rfl), fun t ht => (HLK.out t ht).kept HB2.out⟩ (zAi w2 _)
   ·have hi : i = 0 := by have := (Qx.1 hx).1; simp at this; omega
    subst hi
    cases hq
    cases hx
    refine ⟨L.map Prod.fst, by rw [if_neg (by omega)]; rfl, ?_⟩
    rw [HTOT.out, Qt]
    rfl
  ·have HNO := hid hno
   have HAM := hid ha
   clear hb2 ha hno HALL
   go_wp2_with fail
   go_ret2
   exact ⟨⟨[E.map El.row], ⟨fun h => by omega, fun _ => rfl⟩, .inr ⟨rfl, E.map El.row, by simp, a, HAM.out, HNO.out⟩⟩, HB2.out⟩
 ·clear HALL hall
  have hxl : ∀ x ∈ E, x.2.length = ks.length := fun x hx => by have h := congrArg Qq (hkr x.row (Qo hx)).1; unfold El.row at h; rw [Qg, Qg] at h; exact h
  obtain ⟨mm, hmm⟩ : ∃ mm, mm = ks.length := ⟨_, rfl⟩
  obtain ⟨kc, hkc⟩ : ∃ kc, ks[c]? = some kc := ⟨_, Qu hc⟩
  have HFRO := hid (zLl E c hl v w hv fun x hx => ⟨(hr x hx).1, by have := (hr x hx).2; omega, by rw [hxl x hx]; exact hc⟩)
  have HK2 := hid (show Kind12 (kc :: ks) from fun k hk2 => by rcases Ja.1 hk2 with rfl | h; exact hk _ (Qm hkc); exact hk k h)
  have HGD := hid (show ∀ x : El, (x.2.getD c nilQ).1 = atT x.row c from fun x => by
   have h4 := zBo x.2 (c : Int)
   show _ = atT (x.2.map Prod.fst) c
   rw [<- h4]
   unfold atP
   rw [if_neg (by omega), Jb])
  have HKU := hid (show ∀ x ∈ E, KindsR (kc :: ks) [(x.2.getD c nilQ :: x.2).map Prod.fst] from fun x hx r hr2 => by
   rw [Qj.1 hr2, Qk]
   have h1 := hkr x.row (Qo hx)
   have h2 : (x.2.getD c nilQ).1 ∈ x.row ∧ (x.2.getD c nilQ).1.k = kc := by
    obtain ⟨u, hu⟩ : ∃ u, x.2[c]? = some u := ⟨_, Qu (by rw [hxl x hx]; exact hc)⟩
    rw [List.getD_eq_getElem?_getD, hu]
    refine ⟨Qo (Qm hu), ?_⟩
    have h3 := h1.1
    have h4 : (x.row.map (·.k))[c]? = some u.1.k := by unfold El.row; rw [Qr, Qr, hu]; rfl
    rw [h3, hkc] at h4
    exact (Option.some.inj h4).symm
   refine ⟨by rw [Qk, h2.2]; exact congrArg (kc :: ·) h1.1, fun u hu => ?_⟩
   rcases Ja.1 hu with rfl | h
   ·exact h1.2 _ h2.1
   ·exact h1.2 u h)
  have HXL := hid hxl
  have HMM := hid hmm
  have hEl := hl
  have HEL := hid hl
  have hmm1 : 1 <= mm := by omega
  have hmm5 : ∀ x ∈ E, mm <= 500 := fun x hx => by rw [hmm, <- hxl x hx]; exact (hr x hx).2
  have HMM5 := hid hmm5
  clear hm hv hr hav hok hkr hk hxl hmm hkc hc hEl hmm5
  go_enter Try.func23, Try.ntmps23
  go_wp2_with fail
  refine HFRO.out.mono ?_
  rintro e w2 ⟨uv, rfl, U, hu, hof, hb2⟩
  have hul : U.length = E.length := by have h := congrArg Qq hu; rw [Qg, Qg] at h; exact h
  have hux : ∀ z ∈ U, ∃ x ∈ E, z.2 = x.2.getD c nilQ :: x.2 := fun z hz => by
   have h := Qo (f := Prod.snd) hz
   rw [hu] at h
   obtain ⟨x, hx, he⟩ := Qn.1 h
   exact ⟨x, hx, he.symm⟩
  have HSO := hid (zEp (kc :: ks) HK2.out U (fun r hr2 => by
   obtain ⟨z, hz, rfl⟩ := Qn.1 hr2
   obtain ⟨x, hx, he⟩ := hux z hz
   unfold El.row
   rw [he]
   exact HKU.out x hx _ (by simp)) (by rw [hul]; exact HEL.out) uv w2 hof.rd.1 fun z hz => ⟨hof.rd.2 z hz, by obtain ⟨x, hx, he⟩ := hux z hz; rw [he, Qp]; have := (HR.out x hx).2; omega⟩)
  have HUX := hid hux
  have HU := hid hu
  have HUR := hid hof.rd.2
  have HUL := hid hul
  have HB2 := hid hb2
  clear hu hof hb2 hul hux HFRO
  go_wp2_with fail
  refine HSO.out.mono ?_
  rintro e w5 ⟨zv, rfl, Z, hz1, hz2, hz3, hb5⟩
  obtain ⟨za, zc, hzv⟩ := zBz hz3
  obtain ⟨n, hn⟩ : ∃ n, n = Z.length := ⟨_, rfl⟩
  rw [<- hn] at hz3 hzv
  subst hzv
  have hn6 : n <= 1000000 := by rw [hn, hz1.length_eq, HUL.out]; exact HEL.out
  have HZN := hid hn.symm
  obtain ⟨R, hR⟩ : ∃ R : List (List Vc), R = Z.map fun z => z.row.tail := ⟨_, rfl⟩
  have HRZ := hid hR
  have HRN := hid (show R.length = n by rw [hR, Qg, hn])
  have HZX := hid (show ∀ z ∈ Z, ∃ x ∈ E, z.2 = x.2.getD c nilQ :: x.2 from fun z hz => HUX.out z (hz1.mem_iff.1 hz))
  have HRP := hid (show R.Perm (E.map El.row) from by
   rw [hR]
   refine (hz1.map _).trans ?_
   have h := congrArg (fun L => L.map fun l : List (Vc × Value) => (l.map Prod.fst).tail) HU.out
   simp only [Qt] at h
   refine List.Perm.of_eq (Eq.trans h ?_)
   exact Jg fun x _ => rfl)
  have HSRT := hid (show R.Pairwise fun x y => cmpK (keyV (atT x c)) (keyV (atT y c)) <= 0 from by
   rw [hR]
   refine List.pairwise_map.2 ?_
   have h := zHg (zC3 zBf) hz2
   refine List.Pairwise.imp_of_mem ?_ h
   intro x y hx hy hxy
   obtain ⟨x0, _, hx0⟩ := HZX.out x hx
   obtain ⟨y0, _, hy0⟩ := HZX.out y hy
   unfold keyR El.row at hxy
   rw [hx0, hy0, Qk, Qk, Qk, Qk] at hxy
   have h5 := zN6 hxy
   rw [HGD.out, HGD.out] at h5
   have e1 : x.row.tail = x0.row := by unfold El.row; rw [hx0]; rfl
   have e2 : y.row.tail = y0.row := by unfold El.row; rw [hy0]; rfl
   rw [e1, e2]
   exact h5)
  have HZR := hid (show ∀ z ∈ Z, RdP w5 z.1 z.2 from fun z hz => (HUR.out z (hz1.mem_iff.1 hz)).kept hb5)
  have HB5w := hid (zAa HB2.out hb5)
  have HZO := hid (show ∀ w', Below w5.heap.size w5 w' -> w'.ownsRow w2.heap.size 33 1 (.slice za n zc) n (Z.map Prod.fst) from fun w' h => zAf hz3 (zAc h) (Qi _))
  have HZC := hid (show ∀ z ∈ Z, ∃ (b o cp : Nat), z.1 = .slice (some ⟨b, o, none⟩) (mm + 1) cp ∧ ∃ (tt : Vc × Value) (y : List (Vc × Value)), z.2 = tt :: y ∧ OkV w tt ∧ w5.cell? ⟨b, o, none⟩ = some (.bool tt.1.u) ∧ w5.cell? ⟨b, o + 1, none⟩ = some (.int .i64 tt.1.k) ∧ w5.cell? ⟨b, o + 2, none⟩ = some (.int .i64 tt.1.n) ∧ w5.cell? ⟨b, o + 3, none⟩ = some tt.2 from fun z hz => by
   obtain ⟨x, hx, he⟩ := HZX.out z hz
   have hrd := HZR.out z hz
   obtain ⟨xa, xc, hxs⟩ := zBe hrd
   have hln : z.2.length = mm + 1 := by rw [he, Qp, HXL.out x hx, HMM.out]
   rw [hln] at hxs
   rw [hxs] at hrd
   obtain ⟨b, o, rfl, p0, p1, p2, p3, _⟩ := hrd.at (k := 0) (t := x.2.getD c nilQ) (by rw [he]; rfl)
   simp only [Nat.zero_mul, Jh] at p0 p1 p2 p3
   refine ⟨b, o, xc, hxs, x.2.getD c nilQ, x.2, he, ?_, p0, p1, p2, p3⟩
   have h4 : x.2.getD c nilQ = atP x.2 c := by unfold atP; rw [if_neg (by omega), Jb]
   rw [h4]
   exact zCw (HR.out x hx).1 c)
  clear hz1 hz2 hz3 hb5 hn hR HSO
  go_wp2_with fail
  go_loopw [10, 11] (fun o i wr => ∃ (q : Nat) (oa : Option Addr) (tn oc : Nat) (T : List El) (Qs : List (List (List Vc))), q <= n ∧ i = .int .i64 (q : Int) ∧ o = .slice oa tn oc ∧ T.length = tn ∧ OwnF w5.heap.size wr (.slice oa tn oc) T ∧ T.length = Qs.length ∧ (∀ (i : Nat) (p : List (List Vc)) (x : El), Qs[i]? = some p -> T[i]? = some x -> RowR (c : Int) ags p x.row) ∧ Parted cmpK (fun r => keyV (atT r c)) Qs ∧ Qs.flatten = R.take q ∧ EndK (fun r => keyV (atT r c)) R q ∧ Below w5.heap.size w5 wr) (fun _ i _ => n - (intOf i).toNat)
  case atStart => exact ⟨0, none, 0, 0, [], [], Jj _, rfl, rfl, rfl, OwnF.nil _ _, rfl, (fun i p x h => by simp at h), zHh _ _, by rw [List.take_zero]; rfl, (fun x y h => absurd h (by omega)), Qw _ _⟩
  case round =>
   obtain ⟨q, oa, tn, oc, T, Qs, hq, rfl, rfl, htn, hof, htl, hro, hpt, hfl, hekq, hb⟩ := hrel
   obtain ⟨wo, rfl⟩ : ∃ wo : World, wo = wr := ⟨_, rfl⟩
   have HTN := hid htn
   have HOF := hid hof
   have HTL := hid htl
   have HRO := hid hro
   have HPT := hid hpt
   have HFL := hid hfl
   have HEK := hid hekq
   have HBo := hid hb
   clear htn hof htl hro hpt hfl hekq hb
   by_cases hlt : q < n
   ·obtain ⟨zb, hzb⟩ := zA3 (HZO.out w5 (Qw _ _)) (by omega)
    subst hzb
    have HCZ := hid (show ∀ (i : Nat) (z : El), Z[i]? = some z -> ∀ w', Below w5.heap.size w5 w' -> w'.cell? ⟨zb, i, none⟩ = some z.1 from fun i z hz w' h => ((HZO.out w' h).cellAt i (by have := (Qx.1 hz).1; rw [HZN.out] at this; omega)).trans (by rw [Qr, hz]; rfl))
    have hlti : (q : Int) < (n : Int) := by omega
    have hq0 : (0 : Int) <= (q : Int) := by omega
    go_wp2_with fail
    go_loopw [12, 13] (fun kv pv wx => ∃ (k : Nat) (pa : Option Addr) (pc : Nat) (P : List El), q <= k ∧ k <= n ∧ kv = .int .i64 (k : Int) ∧ pv = .slice pa (k - q) pc ∧ wx.ownsRow wo.heap.size 33 1 (.slice pa (k - q) pc) (k - q) (P.map Prod.fst) ∧ P.map Prod.snd = ((Z.take k).drop q).map (fun z => z.2.tail) ∧ (∀ p ∈ P, RdP wo p.1 p.2) ∧ SegK (fun r => keyV (atT r c)) R q k ∧ Below wo.heap.size wo wx) (fun kv _ _ => n - (intOf kv).toNat)
    case atStart => exact ⟨q, none, 0, [], Qi _, hq, rfl, by rw [Qv], by rw [Qv]; exact World.ownsRow_nil .., by rw [List.drop_eq_nil_of_le (by rw [Qy]; omega)]; rfl, (fun p hp => by cases hp), (fun j x y h1 h2 => by omega), Qw _ _⟩
    case round =>
     obtain ⟨k, pa, pc, P, hqk0, hkn, rfl, rfl, hpo, hps, hpd, hsg, hbx⟩ := hrel
     obtain ⟨wx, rfl⟩ : ∃ wx : World, wx = wr := ⟨_, rfl⟩
     have HPO := hid hpo
     have HPS := hid hps
     have HPD := hid hpd
     have HSG := hid hsg
     have HBXi := hid hbx
     clear hpo hps hpd hsg hbx
     by_cases hltk : k < n
     ·obtain ⟨z1, hz1⟩ : ∃ z, Z[k]? = some z := ⟨_, Qu (by rw [HZN.out]; exact hltk)⟩
      obtain ⟨z2, hz2⟩ : ∃ z, Z[q]? = some z := ⟨_, Qu (by rw [HZN.out]; exact hlt)⟩
      have hz1m := Qm hz1
      obtain ⟨b1, o1, cp1, hzs1, tt1, y1, hzy1, okt1, p0, p1, p2, p3⟩ := HZC.out z1 hz1m
      obtain ⟨b2, o2, cp2, hzs2, tt2, y2, hzy2, okt2, s0, s1, s2, s3⟩ := HZC.out z2 (Qm hz2)
      obtain ⟨ta1, tc1, hts1⟩ := zAo okt1.1
      obtain ⟨tm1, htm1⟩ : ∃ tm, tm = tt1.1.b.length := ⟨_, rfl⟩
      rw [<- htm1] at hts1
      obtain ⟨ta2, tc2, hts2⟩ := zAo okt2.1
      obtain ⟨tm2, htm2⟩ : ∃ tm, tm = tt2.1.b.length := ⟨_, rfl⟩
      rw [<- htm2] at hts2
      obtain ⟨t1, ts1⟩ := tt1
      obtain ⟨t2, ts2⟩ := tt2
      simp only at hts1 hts2 p0 p1 p2 p3 s0 s1 s2 s3 htm1 htm2
      subst hts1
      subst hts2
      have HB5x := hid (zAa HBo.out HBXi.out)
      have hrz1 := HZR.out z1 hz1m
      rw [hzs1] at hrz1
      have hcap : mm + 1 <= cp1 := by obtain ⟨a, cc, e, hn2, _⟩ := hrz1.1; have hl2 := congrArg (fun v => match v with | Value.slice _ n _ => n | _ => 0) e; have hc2 := congrArg (fun v => match v with | Value.slice _ _ n => n | _ => 0) e; simp only at hl2 hc2; omega
      have HTAIL := hid (show ∀ w', Below w5.heap.size w5 w' -> RdP w' (.slice (some ⟨b1, o1 + 4, none⟩) mm (cp1 - 1)) z1.2.tail from fun w' h => by
       have hk2 := hrz1.kept h
       refine ⟨?_, fun u hu => hk2.2 u (List.mem_of_mem_tail hu)⟩
       have h3 := hk2.1
       rw [hzy1, Qk] at h3
       rw [hzy1]
       exact zN5 h3)
      have cz1 := HCZ.out k z1 hz1 _ HB5x.out
      have cz2 := HCZ.out q z2 hz2 _ HB5x.out
      rw [hzs1] at cz1
      rw [hzs2] at cz2
      have HCX := hid (show ∀ w', Below wx.heap.size wx w' -> (w'.cell? ⟨zb, k, none⟩ = some (.slice (some ⟨b1, o1, none⟩) (mm + 1) cp1) ∧ w'.cell? ⟨zb, q, none⟩ = some (.slice (some ⟨b2, o2, none⟩) (mm + 1) cp2) ∧ w'.cell? ⟨b1, o1, none⟩ = some (.bool t1.u) ∧ w'.cell? ⟨b1, o1 + 1, none⟩ = some (.int .i64 t1.k) ∧ w'.cell? ⟨b1, o1 + 2, none⟩ = some (.int .i64 t1.n) ∧ w'.cell? ⟨b1, o1 + 3, none⟩ = some (.slice ta1 tm1 tc1) ∧ w'.cell? ⟨b2, o2, none⟩ = some (.bool t2.u) ∧ w'.cell? ⟨b2, o2 + 1, none⟩ = some (.int .i64 t2.k) ∧ w'.cell? ⟨b2, o2 + 2, none⟩ = some (.int .i64 t2.n) ∧ w'.cell? ⟨b2, o2 + 3, none⟩ = some (.slice ta2 tm2 tc2)) ∧ Below wx.heap.size wx w' from fun w' h => by
       have hb := zAa HB5x.out h
       exact ⟨⟨(h.cell (Qh _ _ cz1)).trans cz1, (h.cell (Qh _ _ cz2)).trans cz2, (hb.cell (Qh _ _ p0)).trans p0, (hb.cell (Qh _ _ p1)).trans p1, (hb.cell (Qh _ _ p2)).trans p2, (hb.cell (Qh _ _ p3)).trans p3, (hb.cell (Qh _ _ s0)).trans s0, (hb.cell (Qh _ _ s1)).trans s1, (hb.cell (Qh _ _ s2)).trans s2, (hb.cell (Qh _ _ s3)).trans s3⟩, h⟩)
      obtain ⟨bs, hbs⟩ : ∃ bs, bs = sameT t1 t2 := ⟨_, rfl⟩
      have HSV := hid (show ∀ w', Below wx.heap.size wx w' -> Calls Try.prog 56 #[.agg #[.bool t1.u, .int .i64 t1.k, .int .i64 t1.n, .slice ta1 tm1 tc1], .agg #[.bool t2.u, .int .i64 t2.k, .int .i64 t2.n, .slice ta2 tm2 tc2]] w' fun e w'' => e = .returned (.bool bs) ∧ Below w'.heap.size w' w'' from fun w' h => by rw [hbs]; exact zGg (t1, .slice ta1 tm1 tc1) (t2, .slice ta2 tm2 tc2) w' (okt1.kept (zAa HB5w.out (zAa HB5x.out h))) (okt2.kept (zAa HB5w.out (zAa HB5x.out h))))
      have HKEY := hid (show ∃ r1 r2, R[k]? = some r1 ∧ R[q]? = some r2 ∧ t1 = atT r1 c ∧ t2 = atT r2 c ∧ t1.k = t2.k from by
       obtain ⟨x1, hx1, he1⟩ := HZX.out z1 hz1m
       obtain ⟨x2, hx2, he2⟩ := HZX.out z2 (Qm hz2)
       refine ⟨x1.row, x2.row, ?_, ?_, ?_, ?_, ?_⟩
       ·rw [HRZ.out, Qr, hz1]; show some z1.row.tail = _; unfold El.row; rw [he1]; rfl
       ·rw [HRZ.out, Qr, hz2]; show some z2.row.tail = _; unfold El.row; rw [he2]; rfl
       ·rw [hzy1] at he1; have h := congrArg Prod.fst (List.cons.inj he1).1; rw [HGD.out] at h; exact h
       ·rw [hzy2] at he2; have h := congrArg Prod.fst (List.cons.inj he2).1; rw [HGD.out] at h; exact h
       ·rw [hzy1] at he1
        rw [hzy2] at he2
        have h1 := (HKU.out x1 hx1 _ (Qj.2 rfl)).1
        have h2 := (HKU.out x2 hx2 _ (Qj.2 rfl)).1
        rw [<- he1] at h1
        rw [<- he2] at h2
        simp only [Qk, List.cons.injEq] at h1 h2
        exact h1.1.trans h2.1.symm)
      have HZ1 := hid hz1
      have hki : (k : Int) < (n : Int) := by omega
      have hkd : decide ((k : Int) < (n : Int)) = true := by rw [decide_eq_true_eq]; exact hki
      have hk0 : (0 : Int) <= (k : Int) := by omega
      have hk1 : IntKind.i64.wrap ((k : Int) + 1) = (k : Int) + 1 := IntWalk.i64_in _ (by omega)
      have hmmi : (0 : Int) < (mm : Int) + 1 := by omega
      have hmmi2 : (1 : Int) <= (mm : Int) + 1 := by omega
      have hcp1 : ¬ cp1 = 1 := by omega
      have hcp2 : (1 : Int) <= (cp1 : Int) := by omega
      have hcp3 : (mm : Int) + 1 <= (cp1 : Int) := by omega
      clear hz1 hz2 hz1m hzs1 hzs2 hzy1 hzy2 okt1 okt2 p0 p1 p2 p3 s0 s1 s2 s3 hrz1 cz1 cz2 htm1 htm2
      cases bs with
      | true =>
       have hts := (zEg t1 t2).1 hbs.symm
       have HSG2 := hid (show SegK (fun r => keyV (atT r c)) R q (k + 1) from fun j x y h1 h2 hx hy => by
        rcases Jc j k with h | h
        ·exact HSG.out j x y h1 h hx hy
        ·obtain rfl : j = k := by omega
         obtain ⟨r1, r2, e1, e2, e3, e4, _⟩ := HKEY.out
         rw [e1] at hx
         rw [e2] at hy
         cases hx
         cases hy
         show keyV (atT x c) = keyV (atT y c)
         rw [<- e3, <- e4, hts])
       clear hts hbs
       go_upto_region 12 with (fail)
       refine wp_region_noPanic ?_
       refine wp_region_held_drew (S := fun w' => (w'.cell? ⟨zb, k, none⟩ = some (.slice (some ⟨b1, o1, none⟩) (mm + 1) cp1) ∧ w'.cell? ⟨zb, q, none⟩ = some (.slice (some ⟨b2, o2, none⟩) (mm + 1) cp2) ∧ w'.cell? ⟨b1, o1, none⟩ = some (.bool t1.u) ∧ w'.cell? ⟨b1, o1 + 1, none⟩ = some (.int .i64 t1.k) ∧ w'.cell? ⟨b1, o1 + 2, none⟩ = some (.int .i64 t1.n) ∧ w'.cell? ⟨b1, o1 + 3, none⟩ = some (.slice ta1 tm1 tc1) ∧ w'.cell? ⟨b2, o2, none⟩ = some (.bool t2.u) ∧ w'.cell? ⟨b2, o2 + 1, none⟩ = some (.int .i64 t2.k) ∧ w'.cell? ⟨b2, o2 + 2, none⟩ = some (.int .i64 t2.n) ∧ w'.cell? ⟨b2, o2 + 3, none⟩ = some (.slice ta2 tm2 tc2)) ∧ Below wx.heap.size wx w') (by kernel_rfl) ?hS0T (fun hHeld => ?go0T)
       case' hS0T => ((try dsimp only); exact HCX.out _ (zAb wx.heap.size wx))
       refine tkH 0 (v := ?v0T) rfl (.inl ⟨by rfl, ?y0T⟩) ?_
       case' y0T => (intro w hSw; first | (go_simp; done) | (go_simp; with_reducible rfl))
       (try simp only [Act.put, Qa, Qb, Qc, Qd, Qe, Qf])
       refine tkH 1 (v := ?v1T) rfl (.inl ⟨by rfl, ?y1T⟩) ?_
       case' y1T => (intro w hSw; first | (go_simp; done) | (go_simp; with_reducible rfl))
       (try simp only [Act.put, Qa, Qb, Qc, Qd, Qe, Qf])
       refine tkH 2 (v := ?v2T) rfl (.inl ⟨by rfl, ?y2T⟩) ?_
       case' y2T => (intro w hSw; first | (go_simp; done) | (go_simp; with_reducible rfl))
       (try simp only [Act.put, Qa, Qb, Qc, Qd, Qe, Qf])
       refine tkH 3 (v := ?v3T) rfl (.inl ⟨by rfl, ?y3T⟩) ?_
       case' y3T => (intro w hSw; first | (go_simp; done) | (go_simp; with_reducible rfl))
       (try simp only [Act.put, Qa, Qb, Qc, Qd, Qe, Qf])
       refine tkH 4 (v := ?v4T) rfl (.inl ⟨by rfl, ?y4T⟩) ?_
       case' y4T => (intro w hSw; first | (go_simp; done) | (go_simp; with_reducible rfl))
       (try simp only [Act.put, Qa, Qb, Qc, Qd, Qe, Qf])
       refine tkH 5 (v := ?v5T) rfl (.inl ⟨by rfl, ?y5T⟩) ?_
       case' y5T => (intro w hSw; first | (go_simp; done) | (go_simp; with_reducible rfl))
       (try simp only [Act.put, Qa, Qb, Qc, Qd, Qe, Qf])
       refine tkH 6 (v := ?v6T) rfl (.inl ⟨by rfl, ?y6T⟩) ?_
       case' y6T => (intro w hSw; first | (go_simp; done) | (go_simp; with_reducible rfl))
       (try simp only [Act.put, Qa, Qb, Qc, Qd, Qe, Qf])
       refine tkH 7 (v := ?v7T) rfl (.inl ⟨by rfl, ?y7T⟩) ?_
       case' y7T => (intro w hSw; first | (go_simp; done) | (go_simp; with_reducible rfl))
       (try simp only [Act.put, Qa, Qb, Qc, Qd, Qe, Qf])
       refine tkH 8 (v := ?v8T) rfl (.inl ⟨by rfl, ?y8T⟩) ?_
       case' y8T => (intro w hSw; first | (go_simp; done) | (go_simp; with_reducible rfl))
       (try simp only [Act.put, Qa, Qb, Qc, Qd, Qe, Qf])
       refine tkH 9 (v := ?v9T) rfl (.inl ⟨by rfl, ?y9T⟩) ?_
       case' y9T => (intro w hSw; first | (go_simp; done) | (go_simp; with_reducible rfl))
       (try simp only [Act.put, Qa, Qb, Qc, Qd, Qe, Qf])
       refine tkH 10 (v := ?v10T) rfl (.inl ⟨by rfl, ?y10T⟩) ?_
       case' y10T => (intro w hSw; first | (go_simp; done) | (go_simp; with_reducible rfl))
       (try simp only [Act.put, Qa, Qb, Qc, Qd, Qe, Qf])
       refine tkH 11 (v := ?v11T) rfl (.inl ⟨by rfl, ?y11T⟩) ?_
       case' y11T => (intro w hSw; first | (go_simp; done) | (go_simp; with_reducible rfl))
       (try simp only [Act.put, Qa, Qb, Qc, Qd, Qe, Qf])
       refine tkH 12 (v := ?v12T) rfl (.inl ⟨by rfl, ?y12T⟩) ?_
       case' y12T => (intro w hSw; first | (go_simp; done) | (go_simp; with_reducible rfl))
       (try simp only [Act.put, Qa, Qb, Qc, Qd, Qe, Qf])
       refine tkH 13 (v := ?v13T) rfl (.inl ⟨by rfl, ?y13T⟩) ?_
       case' y13T => (intro w hSw; first | (go_simp; done) | (go_simp; with_reducible rfl))
       (try simp only [Act.put, Qa, Qb, Qc, Qd, Qe, Qf])
       refine tkH 14 (v := ?v14T) rfl (.inl ⟨by rfl, ?y14T⟩) ?_
       case' y14T => (intro w hSw; first | (go_simp; done) | (go_simp; with_reducible rfl))
       (try simp only [Act.put, Qa, Qb, Qc, Qd, Qe, Qf])
       refine tkH 15 (v := ?v15T) rfl (.inl ⟨by rfl, ?y15T⟩) ?_
       case' y15T => (intro w hSw; first | (go_simp; done) | (go_simp; with_reducible rfl))
       (try simp only [Act.put, Qa, Qb, Qc, Qd, Qe, Qf])
       refine tkH 16 (v := ?v16T) rfl (.inl ⟨by rfl, ?y16T⟩) ?_
       case' y16T => (intro w hSw; first | (go_simp; done) | (go_simp; with_reducible rfl))
       (try simp only [Act.put, Qa, Qb, Qc, Qd, Qe, Qf])
       refine wpAnyH_ready (rs := [17]) (by kernel_rfl) (by simp) ?_
       refine AllReadyH.cons (o := _) rfl (fun K17a hK17a => ?_) AllReadyH.nil
       go_simp
       (go_at_call 56; refine (HSV.out _ hHeld.2).mono ?_; rintro e w2 ⟨rfl, hb⟩; have hb12 : Below wx.heap.size wx w2 := zAa hHeld.2 hb)
       refine hK17a.out _ _ ?hS17aT (fun hHeld17aT => ?_)
       case' hS17aT => ((try dsimp only); exact HCX.out _ hb12)
       clear hK17a K17a
       (try simp only [Act.put, Qa, Qb, Qc, Qd, Qe, Qf])
       refine tkH 18 (v := ?v18T) rfl (.inl ⟨by rfl, ?y18T⟩) ?_
       case' y18T => (intro w hSw; first | (go_simp; done) | (go_simp; with_reducible rfl))
       (try simp only [Act.put, Qa, Qb, Qc, Qd, Qe, Qf])
       refine wpAnyH_done (by kernel_rfl) ?_ _
       refine NoPanic.normal ?_
       have HB2x := hid (zAa HBXi.out hb12)
       have cz1 := (HCX.out _ hb12).1.1
       have HOWN := hid (zAf HPO.out (zAc (zAe hb12 (.cells #[.slice (some ⟨b1, o1 + 4, none⟩) mm (cp1 - 1)] 33))) (Qi _))
       have HRD := hid (zAv (Jr w2 (.cells #[.slice (some ⟨b1, o1 + 4, none⟩) mm (cp1 - 1)] 33)) 1)
       have HONP := hid (show Ones 1 [(#[Value.slice (some ⟨b1, o1 + 4, none⟩) mm (cp1 - 1)] : Array Value).toList] from fun u hu => by rw [Qj.1 hu]; exact ⟨rfl, fun z hz => by rw [Qj.1 hz]; rfl⟩)
       have HSZP := hid (show wo.heap.size <= (w2.alloc (.cells #[.slice (some ⟨b1, o1 + 4, none⟩) mm (cp1 - 1)] 33)).heap.size from Qz HB2x.out.size (by simp))
       have HNP := hid (show k - q + [(#[Value.slice (some ⟨b1, o1 + 4, none⟩) mm (cp1 - 1)] : Array Value).toList].length <= 10000000 from by simp; omega)
       have HNQ := hid (show k - q + [(#[Value.slice (some ⟨b1, o1 + 4, none⟩) mm (cp1 - 1)] : Array Value).toList].length = k + 1 - q from by simp; omega)
       clear hb hb12 hHeld hHeld17aT HSV HCX
       go_wp2_with (at_builtin; go_must (refine zAq zAm rfl _ _ rfl wo.heap.size _ _ _ rfl HOWN.out _ _ rfl HRD.out HONP.out HNP.out HSZP.out (k + 1 - q) HNQ.out ?_); intro pa2 pc2 w4 hown4 hg4 hn4; have HO4 := hid hown4; have HG4 := hid hg4; clear hown4 hg4 hn4)
       have HB4 := hid ((HB2x.out.alloc HB2x.out.size (.cells #[.slice (some ⟨b1, o1 + 4, none⟩) mm (cp1 - 1)] 33)).grown HG4.out HSZP.out (zAg HOWN.out))
       go_roundw
       case rel =>
        refine ⟨k + 1, pa2, pc2, P ++ [(.slice (some ⟨b1, o1 + 4, none⟩) mm (cp1 - 1), z1.2.tail)], by omega, by omega, by go_num, rfl, by rw [Ji]; exact HO4.out, ?_, fun p hp => ?_, HSG2.out, HB4.out⟩
        ·rw [Ji, HPS.out, zDn hqk0 HZ1.out, Ji]
         rfl
        ·rcases List.mem_append.1 hp with h | h
         ·exact HPD.out p h
         ·rw [Qj.1 h]
          exact HTAIL.out _ HBo.out
       case measure => simp [intOf]; omega
      | false =>
       have hqk : q < k := by
        rcases Jc q k with h | h
        ·exact h
        ·exfalso
         obtain rfl : k = q := by omega
         obtain ⟨r1, r2, e1, e2, e3, e4, _⟩ := HKEY.out
         rw [e1] at e2
         cases e2
         have := (zEg t1 t2).2 (e3.trans e4.symm)
         rw [this] at hbs
         cases hbs
       have hek : EndK (fun r => keyV (atT r c)) R k := fun x y _ hx hy hxy => by
        obtain ⟨r1, r2, e1, e2, e3, e4, e5⟩ := HKEY.out
        rw [e1] at hy
        cases hy
        have h6 := HSG.out (k - 1) x r2 (by omega) (by omega) hx e2
        have h7 : keyV t1 = keyV t2 := by rw [e3, e4]; exact hxy.symm.trans h6
        have := (zEg t1 t2).2 ((zHa e5).1 h7)
        rw [this] at hbs
        cases hbs
       clear hbs
       go_upto_region 12 with (fail)
       refine wp_region_noPanic ?_
       refine wp_region_held_drew (S := fun w' => (w'.cell? ⟨zb, k, none⟩ = some (.slice (some ⟨b1, o1, none⟩) (mm + 1) cp1) ∧ w'.cell? ⟨zb, q, none⟩ = some (.slice (some ⟨b2, o2, none⟩) (mm + 1) cp2) ∧ w'.cell? ⟨b1, o1, none⟩ = some (.bool t1.u) ∧ w'.cell? ⟨b1, o1 + 1, none⟩ = some (.int .i64 t1.k) ∧ w'.cell? ⟨b1, o1 + 2, none⟩ = some (.int .i64 t1.n) ∧ w'.cell? ⟨b1, o1 + 3, none⟩ = some (.slice ta1 tm1 tc1) ∧ w'.cell? ⟨b2, o2, none⟩ = some (.bool t2.u) ∧ w'.cell? ⟨b2, o2 + 1, none⟩ = some (.int .i64 t2.k) ∧ w'.cell? ⟨b2, o2 + 2, none⟩ = some (.int .i64 t2.n) ∧ w'.cell? ⟨b2, o2 + 3, none⟩ = some (.slice ta2 tm2 tc2)) ∧ Below wx.heap.size wx w') (by kernel_rfl) ?hS0F (fun hHeld => ?go0F)
       case' hS0F => ((try dsimp only); exact HCX.out _ (zAb wx.heap.size wx))
       refine tkH 0 (v := ?v0F) rfl (.inl ⟨by rfl, ?y0F⟩) ?_
       case' y0F => (intro w hSw; first | (go_simp; done) | (go_simp; with_reducible rfl))
       (try simp only [Act.put, Qa, Qb, Qc, Qd, Qe, Qf])
       refine tkH 1 (v := ?v1F) rfl (.inl ⟨by rfl, ?y1F⟩) ?_
       case' y1F => (intro w hSw; first | (go_simp; done) | (go_simp; with_reducible rfl))
       (try simp only [Act.put, Qa, Qb, Qc, Qd, Qe, Qf])
       refine tkH 2 (v := ?v2F) rfl (.inl ⟨by rfl, ?y2F⟩) ?_
       case' y2F => (intro w hSw; first | (go_simp; done) | (go_simp; with_reducible rfl))
       (try simp only [Act.put, Qa, Qb, Qc, Qd, Qe, Qf])
       refine tkH 3 (v := ?v3F) rfl (.inl ⟨by rfl, ?y3F⟩) ?_
       case' y3F => (intro w hSw; first | (go_simp; done) | (go_simp; with_reducible rfl))
       (try simp only [Act.put, Qa, Qb, Qc, Qd, Qe, Qf])
       refine tkH 4 (v := ?v4F) rfl (.inl ⟨by rfl, ?y4F⟩) ?_
       case' y4F => (intro w hSw; first | (go_simp; done) | (go_simp; with_reducible rfl))
       (try simp only [Act.put, Qa, Qb, Qc, Qd, Qe, Qf])
       refine tkH 5 (v := ?v5F) rfl (.inl ⟨by rfl, ?y5F⟩) ?_
       case' y5F => (intro w hSw; first | (go_simp; done) | (go_simp; with_reducible rfl))
       (try simp only [Act.put, Qa, Qb, Qc, Qd, Qe, Qf])
       refine tkH 6 (v := ?v6F) rfl (.inl ⟨by rfl, ?y6F⟩) ?_
       case' y6F => (intro w hSw; first | (go_simp; done) | (go_simp; with_reducible rfl))
       (try simp only [Act.put, Qa, Qb, Qc, Qd, Qe, Qf])
       refine tkH 7 (v := ?v7F) rfl (.inl ⟨by rfl, ?y7F⟩) ?_
       case' y7F => (intro w hSw; first | (go_simp; done) | (go_simp; with_reducible rfl))
       (try simp only [Act.put, Qa, Qb, Qc, Qd, Qe, Qf])
       refine tkH 8 (v := ?v8F) rfl (.inl ⟨by rfl, ?y8F⟩) ?_
       case' y8F => (intro w hSw; first | (go_simp; done) | (go_simp; with_reducible rfl))
       (try simp only [Act.put, Qa, Qb, Qc, Qd, Qe, Qf])
       refine tkH 9 (v := ?v9F) rfl (.inl ⟨by rfl, ?y9F⟩) ?_
       case' y9F => (intro w hSw; first | (go_simp; done) | (go_simp; with_reducible rfl))
       (try simp only [Act.put, Qa, Qb, Qc, Qd, Qe, Qf])
       refine tkH 10 (v := ?v10F) rfl (.inl ⟨by rfl, ?y10F⟩) ?_
       case' y10F => (intro w hSw; first | (go_simp; done) | (go_simp; with_reducible rfl))
       (try simp only [Act.put, Qa, Qb, Qc, Qd, Qe, Qf])
       refine tkH 11 (v := ?v11F) rfl (.inl ⟨by rfl, ?y11F⟩) ?_
       case' y11F => (intro w hSw; first | (go_simp; done) | (go_simp; with_reducible rfl))
       (try simp only [Act.put, Qa, Qb, Qc, Qd, Qe, Qf])
       refine tkH 12 (v := ?v12F) rfl (.inl ⟨by rfl, ?y12F⟩) ?_
       case' y12F => (intro w hSw; first | (go_simp; done) | (go_simp; with_reducible rfl))
       (try simp only [Act.put, Qa, Qb, Qc, Qd, Qe, Qf])
       refine tkH 13 (v := ?v13F) rfl (.inl ⟨by rfl, ?y13F⟩) ?_
       case' y13F => (intro w hSw; first | (go_simp; done) | (go_simp; with_reducible rfl))
       (try simp only [Act.put, Qa, Qb, Qc, Qd, Qe, Qf])
       refine tkH 14 (v := ?v14F) rfl (.inl ⟨by rfl, ?y14F⟩) ?_
       case' y14F => (intro w hSw; first | (go_simp; done) | (go_simp; with_reducible rfl))
       (try simp only [Act.put, Qa, Qb, Qc, Qd, Qe, Qf])
       refine tkH 15 (v := ?v15F) rfl (.inl ⟨by rfl, ?y15F⟩) ?_
       case' y15F => (intro w hSw; first | (go_simp; done) | (go_simp; with_reducible rfl))
       (try simp only [Act.put, Qa, Qb, Qc, Qd, Qe, Qf])
       refine tkH 16 (v := ?v16F) rfl (.inl ⟨by rfl, ?y16F⟩) ?_
       case' y16F => (intro w hSw; first | (go_simp; done) | (go_simp; with_reducible rfl))
       (try simp only [Act.put, Qa, Qb, Qc, Qd, Qe, Qf])
       refine wpAnyH_ready (rs := [17]) (by kernel_rfl) (by simp) ?_
       refine AllReadyH.cons (o := _) rfl (fun K17a hK17a => ?_) AllReadyH.nil
       go_simp
       (go_at_call 56; refine (HSV.out _ hHeld.2).mono ?_; rintro e w2 ⟨rfl, hb⟩; have hb12 : Below wx.heap.size wx w2 := zAa hHeld.2 hb)
       refine hK17a.out _ _ ?hS17aF (fun hHeld17aF => ?_)
       case' hS17aF => ((try dsimp only); exact HCX.out _ hb12)
       clear hK17a K17a
       (try simp only [Act.put, Qa, Qb, Qc, Qd, Qe, Qf])
       refine tkH 18 (v := ?v18F) rfl (.inl ⟨by rfl, ?y18F⟩) ?_
       case' y18F => (intro w hSw; first | (go_simp; done) | (go_simp; with_reducible rfl))
       (try simp only [Act.put, Qa, Qb, Qc, Qd, Qe, Qf])
       refine wpAnyH_done (by kernel_rfl) ?_ _
       refine NoPanic.normal ?_
       have HBX2 := hb12
       have HBX := zAa HBXi.out hb12
       clear hb hb12 hHeld hHeld17aF HSV HCX
       have HPR := hid (show P.map El.row = (R.take k).drop q from by
        rw [HRZ.out, zJj]
        have h := congrArg (fun L => L.map fun l : List (Vc × Value) => l.map Prod.fst) HPS.out
        simp only [Qt] at h
        refine Eq.trans h ?_
        exact Jg fun z _ => by show (z.2.tail).map Prod.fst = (z.2.map Prod.fst).tail; rw [Jk])
       have HSA := hid (zJh zBf HSRT.out HPT.out HFL.out HEK.out hqk (by rw [HRN.out]; exact hkn) HSG.out)
       have hpl : P.length = k - q := by have h := congrArg Qq HPS.out; rw [Qg, Qg, Jl, Qy, HZN.out] at h; omega
       have hpm : ∀ p ∈ P, p.row ∈ E.map El.row ∧ p.2.length <= 1000 ∧ ∀ t ∈ p.2, OkV w t := fun p hp => by
        have h := Qo (f := Prod.snd) hp
        rw [HPS.out] at h
        obtain ⟨z, hz, he⟩ := Qn.1 h
        obtain ⟨x, hx, hzx⟩ := HZX.out z (Jm (Jn hz))
        rw [hzx, Jo] at he
        unfold El.row
        rw [<- he]
        exact ⟨Qo (f := El.row) hx, by have := (HR.out x hx).2; omega, (HR.out x hx).1.2⟩
       have HALL := hid (zG2 P ags (by omega) (by rw [<- HM.out]; omega) (.slice pa (k - q) pc) (.slice aa m ac) w w2 (zAa HB5w.out (zAa HBo.out HBX)) (Rd.of_owns (zAf HPO.out (zAc HBX2) (Qi _))) (fun p hp => ⟨(HPD.out p hp).kept HBX, (hpm p hp).2.1, (hpm p hp).2.2⟩) (HAV.out.kept (zAa HB5w.out (zAa HBo.out HBX))) fun a ha => zJi (HAK.out a ha) fun p hp => (hpm p hp).1)
       have HBX7 := hid (zAa HBo.out HBX)
       have HBXX := hid HBX
       clear hpl hpm
       go_wp2_with fail
       refine HALL.out.mono ?_
       rintro e w7 ⟨hret, hb7⟩
       have HB7 := hid (zAa HBX7.out hb7)
       have HB7x := hid hb7
       clear hb7
       rcases hret with ⟨lv, L, rfl, hlo, hlk, htot⟩ | ⟨rfl, a, ha, hno⟩
       ·obtain ⟨la, lc, hlv⟩ := zBz hlo
        obtain ⟨ll, hll⟩ : ∃ ll, ll = L.length := ⟨_, rfl⟩
        rw [<- hll] at hlv hlo
        subst hlv
        obtain ⟨z, hz⟩ : ∃ z, Z[q]? = some z := ⟨_, Qu (by rw [HZN.out]; omega)⟩
        obtain ⟨b2, o2, cp2, hzs, tt, y, hzy, okt, q0, q1, q2, q3⟩ := HZC.out z (Qm hz)
        obtain ⟨ta, tc, hts⟩ := zAo okt.1
        obtain ⟨tm, htm⟩ : ∃ tm, tm = tt.1.b.length := ⟨_, rfl⟩
        rw [<- htm] at hts
        obtain ⟨t, ts⟩ := tt
        simp only at hts q0 q1 q2 q3 htm
        subst hts
        have cz := (HCZ.out q z hz w7 HB7.out)
        rw [hzs] at cz
        have q0' := (HB7.out.cell (Qh _ _ q0)).trans q0
        have q1' := (HB7.out.cell (Qh _ _ q1)).trans q1
        have q2' := (HB7.out.cell (Qh _ _ q2)).trans q2
        have q3' := (HB7.out.cell (Qh _ _ q3)).trans q3
        have HOKT := hid okt
        have HLK := hid hlk
        have HLL := hid hll
        have HLO := hid hlo
        have HTOT := hid htot
        have HB27 := hid (zAa HBXX.out HB7x.out)
        have HOF7 := hid (HOF.out.kept HB27.out)
        have HLEN := hid (show ll <= 1000 from by have h := congrArg Qq htot; rw [Qg, Qg, <- HM.out] at h; omega)
        have hllb := HLEN.out
        have HRQ := hid (show R[q]? = some (y.map Prod.fst) ∧ t = atT (y.map Prod.fst) c from by
         rw [HRZ.out, Qr, hz]
         refine ⟨?_, ?_⟩
         ·show some ((z.2.map Prod.fst).tail) = _
          rw [hzy]
          rfl
         ·obtain ⟨x, hx, hzx⟩ := HZX.out z (Qm hz)
          rw [hzy] at hzx
          obtain ⟨h1, h2⟩ := List.cons.inj hzx
          rw [h2]
          have h3 := congrArg Prod.fst h1
          simp only at h3
          rw [h3]
          have h4 := zBo x.2 (c : Int)
          rw [<- h4]
          unfold atP
          rw [if_neg (by omega), Jb])
        clear hz hzs hzy okt q0 q1 q2 q3 htm hlk hll hlo htot HALL
        have HOW1 := hid (World.ownsRow_lit (e := 36) (size := 4) w7 #[.bool t.u, .int .i64 t.k, .int .i64 t.n, .slice ta tm tc] 1 (Qi _) (by unfold maxLen; omega) rfl)
        have HRD1 := hid (show RdS (w7.alloc (.cells #[.bool t.u, .int .i64 t.k, .int .i64 t.n, .slice ta tm tc] 36)) 4 (.slice la ll lc) (L.map cellsV) from (zCb HLO.out (by rw [Qg]; exact HLL.out) (fun t ht => by obtain ⟨y, _, rfl⟩ := Qn.1 ht; rfl)).kept (zAi w7 _))
        have HON1 := hid (zD4 HLK.out)
        have HSZ1 := hid (show w7.heap.size <= (w7.alloc (.cells #[.bool t.u, .int .i64 t.k, .int .i64 t.n, .slice ta tm tc] 36)).heap.size by simp)
        have hN1 : 1 + (L.map cellsV).length <= 10000000 := by rw [Qg]; have := HLL.out; omega
        have hN2 : 1 + (L.map cellsV).length = ll + 1 := by rw [Qg]; have := HLL.out; omega
        have HN1 := hid hN1
        have HN2 := hid hN2
        have htl : T.length <= 1000000 := by have h := zG3 Qs HPT.out.ne; rw [HFL.out, Qy] at h; have := HTL.out; omega
        clear hN1 hN2
        go_upto_region 19 with (at_builtin; go_must (first
         | (refine zAq zCc rfl _ _ rfl w7.heap.size _ _ _ rfl HOW1.out _ _ rfl HRD1.out HON1.out HN1.out HSZ1.out (ll + 1) HN2.out ?_; intro ra rc w8 hown8 hg8 hn8; have HO8 := hid hown8; have HB8 := hid (show Below w7.heap.size w7 w8 from (zAi w7 (.cells #[.bool t.u, .int .i64 t.k, .int .i64 t.n, .slice ta tm tc] 36)).grown hg8 HSZ1.out (zAg HOW1.out)); clear hown8 hg8 hn8; have HOW2 := hid (show (w8.alloc (.cells #[.slice ra (ll + 1) rc] 33)).ownsRow w5.heap.size 33 1 (.slice oa tn oc) tn (T.map Prod.fst) from by have h := zAf (HOF7.out.kept HB8.out).1 (zAc (zAi w8 (.cells #[.slice ra (ll + 1) rc] 33))) (Qi _); rw [HTN.out] at h; exact h); have HRD2 := hid (zAv (Jr w8 (.cells #[.slice ra (ll + 1) rc] 33)) 1); have HON2 := hid (show Ones 1 [(#[Value.slice ra (ll + 1) rc] : Array Value).toList] from fun u hu => by rw [Qj.1 hu]; exact ⟨rfl, fun z hz => by rw [Qj.1 hz]; rfl⟩); have HSZ2 := hid (show w5.heap.size <= (w8.alloc (.cells #[.slice ra (ll + 1) rc] 33)).heap.size from Qz HB7.out.size (Qz HB8.out.size (by simp))); have HN3 := hid (show tn + [(#[Value.slice ra (ll + 1) rc] : Array Value).toList].length <= 10000000 from by have := HTN.out; simp; omega))
         | (refine zAq zAm rfl _ _ rfl w5.heap.size _ _ _ rfl HOW2.out _ _ rfl HRD2.out HON2.out HN3.out HSZ2.out (tn + 1) rfl ?_; intro oa9 oc9 w9 hown9 hg9 hn9; have HO9 := hid hown9; have HG9 := hid hg9; have HNN9 := hid hn9; clear hown9 hg9 hn9)))
        have HFR := hid (show Free (fun b => (Value.slice oa tn oc).ownBlock = some b) w8 fun w' => RdP w' (.slice ra (ll + 1) rc) ((t, .slice ta tm tc) :: L) from by
         refine zFa (w := w) (B := w5.heap.size) (K := w7.heap.size) (n := T.length) (xs := T.map Prod.fst) ?_ ?_ (zAa HB5w.out (zAa HB7.out HB8.out)) HB5w.out.size fun u hu => ?_
         ·exact (HOF7.out.kept HB8.out).1
         ·have h := HO8.out
          rw [Qp, <- HLL.out, Qk, Jf]
          exact h
         ·rcases Ja.1 hu with rfl | h
          ·exact HOKT.out
          ·exact HLK.out u h)
        have hpush := OwnF.push (o3 := (.cells #[.slice ra (ll + 1) rc] 33)) (HOF7.out) (HB8.out) HFR.out HG9.out HNN9.out (by rw [HTN.out]; exact HO9.out)
        have HPU := hid hpush
        have HB9 := hid ((zAa HB7.out (zAe HB8.out (.cells #[.slice ra (ll + 1) rc] 33))).grown HG9.out HSZ2.out (zAg HOW2.out))
        clear hpush
        go_wp2_with fail
        go_roundw
        case rel =>
         refine ⟨k, oa9, tn + 1, oc9, T ++ [(.slice ra (ll + 1) rc, (t, .slice ta tm tc) :: L)], Qs ++ [(R.take k).drop q], hkn, rfl, rfl, by rw [Ql, HTN.out]; rfl, HPU.out, by rw [Ql, Ql, HTL.out]; rfl, ?_, HSA.out.1, HSA.out.2, hek, HB9.out⟩
         intro i p x hp hx
         rcases Jc i T.length with hi | hi
         ·rw [Jd (by rw [<- HTL.out]; exact hi)] at hp
          rw [Jd hi] at hx
          exact HRO.out i p x hp hx
         ·have hi2 : i = T.length := by have := (Qx.1 hx).1; rw [Ql] at this; simp at this; omega
          subst hi2
          rw [Je (Qi _), Qv] at hx
          rw [HTL.out, Je (Qi _), Qv] at hp
          cases hx
          cases hp
          refine ⟨L.map Prod.fst, ?_, ?_⟩
          ·rw [if_pos (by omega)]
           have h1 : ((R.take k).drop q).headD [] = y.map Prod.fst := by
            have h2 : ((R.take k).drop q)[0]? = some (y.map Prod.fst) := by rw [Jp, Jq (by omega), Jh]; exact HRQ.out.1
            cases hc : (R.take k).drop q with
            | nil => rw [hc] at h2; cases h2
            | cons a l => rw [hc] at h2; cases h2; rfl
           rw [h1, <- HRQ.out.2]
           rfl
          ·have h := HTOT.out
           rw [HPR.out] at h
           rw [h, Qt]
           rfl
        case measure => simp [intOf]; omega
       ·have HNO := hid hno
        have HAM := hid ha
        have HBF := hid (zAa HB5w.out HB7.out)
        clear hno ha HALL
        obtain ⟨Q2, hQ1, hQ2⟩ := zDu zBf HSRT.out _ (Qi _) (by rw [HRN.out]; exact hkn) HSA.out.1 HSA.out.2 hek
        have HQ1 := hid hQ1
        have HQ2 := hid hQ2
        clear hQ1 hQ2
        go_wp2_with fail
        go_ret2
        refine ⟨⟨(Qs ++ [(R.take k).drop q]) ++ Q2, ⟨fun _ => ⟨by rw [HQ2.out]; exact HRP.out, HQ1.out⟩, fun h => by omega⟩, .inr ⟨rfl, (R.take k).drop q, by simp, a, HAM.out, by rw [<- HPR.out]; exact HNO.out⟩⟩, HBF.out⟩
     ·have hqk : q < k := by omega
      have hek : EndK (fun r => keyV (atT r c)) R k := fun x y _ hx hy => by have := (Qx.1 hy).1; rw [HRN.out] at this; omega
      have hki : ¬ (k : Int) < (n : Int) := by omega
      have hkd : decide ((k : Int) < (n : Int)) = false := by rw [decide_eq_false_iff_not]; exact hki
      go_upto_region 12 with (fail)
      go_quiet (fail)
      have HBX2 : Below wx.heap.size wx (wx.drewN nq) := below_draws (Qw _ _) nq
      have HBX : Below wo.heap.size wo (wx.drewN nq) := below_draws HBXi.out nq
      obtain ⟨w6, hw6⟩ : ∃ w6 : World, w6 = wx.drewN nq := ⟨_, rfl⟩
      rw [<- hw6] at HBX HBX2 ⊢
      clear hw6
      have HPR := hid (show P.map El.row = (R.take k).drop q from by
       rw [HRZ.out, zJj]
       have h := congrArg (fun L => L.map fun l : List (Vc × Value) => l.map Prod.fst) HPS.out
       simp only [Qt] at h
       refine Eq.trans h ?_
       exact Jg fun z _ => by show (z.2.tail).map Prod.fst = (z.2.map Prod.fst).tail; rw [Jk])
      have HSA := hid (zJh zBf HSRT.out HPT.out HFL.out HEK.out hqk (by rw [HRN.out]; exact hkn) HSG.out)
      have hpl : P.length = k - q := by have h := congrArg Qq HPS.out; rw [Qg, Qg, Jl, Qy, HZN.out] at h; omega
      have hpm : ∀ p ∈ P, p.row ∈ E.map El.row ∧ p.2.length <= 1000 ∧ ∀ t ∈ p.2, OkV w t := fun p hp => by
       have h := Qo (f := Prod.snd) hp
       rw [HPS.out] at h
       obtain ⟨z, hz, he⟩ := Qn.1 h
       obtain ⟨x, hx, hzx⟩ := HZX.out z (Jm (Jn hz))
       rw [hzx, Jo] at he
       unfold El.row
       rw [<- he]
       exact ⟨Qo (f := El.row) hx, by have := (HR.out x hx).2; omega, (HR.out x hx).1.2⟩
      have HALL := hid (zG2 P ags (by omega) (by rw [<- HM.out]; omega) (.slice pa (k - q) pc) (.slice aa m ac) w w6 (zAa HB5w.out (zAa HBo.out HBX)) (Rd.of_owns (zAf HPO.out (zAc HBX2) (Qi _))) (fun p hp => ⟨(HPD.out p hp).kept HBX, (hpm p hp).2.1, (hpm p hp).2.2⟩) (HAV.out.kept (zAa HB5w.out (zAa HBo.out HBX))) fun a ha => zJi (HAK.out a ha) fun p hp => (hpm p hp).1)
      have HBX7 := hid (zAa HBo.out HBX)
      have HBXX := hid HBX
      clear hpl hpm
      go_wp2_with fail
      refine HALL.out.mono ?_
      rintro e w7 ⟨hret, hb7⟩
      have HB7 := hid (zAa HBX7.out hb7)
      have HB7x := hid hb7
      clear hb7
      rcases hret with ⟨lv, L, rfl, hlo, hlk, htot⟩ | ⟨rfl, a, ha, hno⟩
      ·obtain ⟨la, lc, hlv⟩ := zBz hlo
       obtain ⟨ll, hll⟩ : ∃ ll, ll = L.length := ⟨_, rfl⟩
       rw [<- hll] at hlv hlo
       subst hlv
       obtain ⟨z, hz⟩ : ∃ z, Z[q]? = some z := ⟨_, Qu (by rw [HZN.out]; omega)⟩
       obtain ⟨b2, o2, cp2, hzs, tt, y, hzy, okt, q0, q1, q2, q3⟩ := HZC.out z (Qm hz)
       obtain ⟨ta, tc, hts⟩ := zAo okt.1
       obtain ⟨tm, htm⟩ : ∃ tm, tm = tt.1.b.length := ⟨_, rfl⟩
       rw [<- htm] at hts
       obtain ⟨t, ts⟩ := tt
       simp only at hts q0 q1 q2 q3 htm
       subst hts
       have cz := (HCZ.out q z hz w7 HB7.out)
       rw [hzs] at cz
       have q0' := (HB7.out.cell (Qh _ _ q0)).trans q0
       have q1' := (HB7.out.cell (Qh _ _ q1)).trans q1
       have q2' := (HB7.out.cell (Qh _ _ q2)).trans q2
       have q3' := (HB7.out.cell (Qh _ _ q3)).trans q3
       have HOKT := hid okt
       have HLK := hid hlk
       have HLL := hid hll
       have HLO := hid hlo
       have HTOT := hid htot
       have HB27 := hid (zAa HBXX.out HB7x.out)
       have HOF7 := hid (HOF.out.kept HB27.out)
       have HLEN := hid (show ll <= 1000 from by have h := congrArg Qq htot; rw [Qg, Qg, <- HM.out] at h; omega)
       have hllb := HLEN.out
       have HRQ := hid (show R[q]? = some (y.map Prod.fst) ∧ t = atT (y.map Prod.fst) c from by
        rw [HRZ.out, Qr, hz]
        refine ⟨?_, ?_⟩
        ·show some ((z.2.map Prod.fst).tail) = _
         rw [hzy]
         rfl
        ·obtain ⟨x, hx, hzx⟩ := HZX.out z (Qm hz)
         rw [hzy] at hzx
         obtain ⟨h1, h2⟩ := List.cons.inj hzx
         rw [h2]
         have h3 := congrArg Prod.fst h1
         simp only at h3
         rw [h3]
         have h4 := zBo x.2 (c : Int)
         rw [<- h4]
         unfold atP
         rw [if_neg (by omega), Jb])
       clear hz hzs hzy okt q0 q1 q2 q3 htm hlk hll hlo htot HALL
       have HOW1 := hid (World.ownsRow_lit (e := 36) (size := 4) w7 #[.bool t.u, .int .i64 t.k, .int .i64 t.n, .slice ta tm tc] 1 (Qi _) (by unfold maxLen; omega) rfl)
       have HRD1 := hid (show RdS (w7.alloc (.cells #[.bool t.u, .int .i64 t.k, .int .i64 t.n, .slice ta tm tc] 36)) 4 (.slice la ll lc) (L.map cellsV) from (zCb HLO.out (by rw [Qg]; exact HLL.out) (fun t ht => by obtain ⟨y, _, rfl⟩ := Qn.1 ht; rfl)).kept (zAi w7 _))
       have HON1 := hid (zD4 HLK.out)
       have HSZ1 := hid (show w7.heap.size <= (w7.alloc (.cells #[.bool t.u, .int .i64 t.k, .int .i64 t.n, .slice ta tm tc] 36)).heap.size by simp)
       have hN1 : 1 + (L.map cellsV).length <= 10000000 := by rw [Qg]; have := HLL.out; omega
       have hN2 : 1 + (L.map cellsV).length = ll + 1 := by rw [Qg]; have := HLL.out; omega
       have HN1 := hid hN1
       have HN2 := hid hN2
       have htl : T.length <= 1000000 := by have h := zG3 Qs HPT.out.ne; rw [HFL.out, Qy] at h; have := HTL.out; omega
       clear hN1 hN2
       go_upto_region 19 with (at_builtin; go_must (first
        | (refine zAq zCc rfl _ _ rfl w7.heap.size _ _ _ rfl HOW1.out _ _ rfl HRD1.out HON1.out HN1.out HSZ1.out (ll + 1) HN2.out ?_; intro ra rc w8 hown8 hg8 hn8; have HO8 := hid hown8; have HB8 := hid (show Below w7.heap.size w7 w8 from (zAi w7 (.cells #[.bool t.u, .int .i64 t.k, .int .i64 t.n, .slice ta tm tc] 36)).grown hg8 HSZ1.out (zAg HOW1.out)); clear hown8 hg8 hn8; have HOW2 := hid (show (w8.alloc (.cells #[.slice ra (ll + 1) rc] 33)).ownsRow w5.heap.size 33 1 (.slice oa tn oc) tn (T.map Prod.fst) from by have h := zAf (HOF7.out.kept HB8.out).1 (zAc (zAi w8 (.cells #[.slice ra (ll + 1) rc] 33))) (Qi _); rw [HTN.out] at h; exact h); have HRD2 := hid (zAv (Jr w8 (.cells #[.slice ra (ll + 1) rc] 33)) 1); have HON2 := hid (show Ones 1 [(#[Value.slice ra (ll + 1) rc] : Array Value).toList] from fun u hu => by rw [Qj.1 hu]; exact ⟨rfl, fun z hz => by rw [Qj.1 hz]; rfl⟩); have HSZ2 := hid (show w5.heap.size <= (w8.alloc (.cells #[.slice ra (ll + 1) rc] 33)).heap.size from Qz HB7.out.size (Qz HB8.out.size (by simp))); have HN3 := hid (show tn + [(#[Value.slice ra (ll + 1) rc] : Array Value).toList].length <= 10000000 from by have := HTN.out; simp; omega))
        | (refine zAq zAm rfl _ _ rfl w5.heap.size _ _ _ rfl HOW2.out _ _ rfl HRD2.out HON2.out HN3.out HSZ2.out (tn + 1) rfl ?_; intro oa9 oc9 w9 hown9 hg9 hn9; have HO9 := hid hown9; have HG9 := hid hg9; have HNN9 := hid hn9; clear hown9 hg9 hn9)))
       have HFR := hid (show Free (fun b => (Value.slice oa tn oc).ownBlock = some b) w8 fun w' => RdP w' (.slice ra (ll + 1) rc) ((t, .slice ta tm tc) :: L) from by
        refine zFa (w := w) (B := w5.heap.size) (K := w7.heap.size) (n := T.length) (xs := T.map Prod.fst) ?_ ?_ (zAa HB5w.out (zAa HB7.out HB8.out)) HB5w.out.size fun u hu => ?_
        ·exact (HOF7.out.kept HB8.out).1
        ·have h := HO8.out
         rw [Qp, <- HLL.out, Qk, Jf]
         exact h
        ·rcases Ja.1 hu with rfl | h
         ·exact HOKT.out
         ·exact HLK.out u h)
       have hpush := OwnF.push (o3 := (.cells #[.slice ra (ll + 1) rc] 33)) (HOF7.out) (HB8.out) HFR.out HG9.out HNN9.out (by rw [HTN.out]; exact HO9.out)
       have HPU := hid hpush
       have HB9 := hid ((zAa HB7.out (zAe HB8.out (.cells #[.slice ra (ll + 1) rc] 33))).grown HG9.out HSZ2.out (zAg HOW2.out))
       clear hpush
       go_wp2_with fail
       go_roundw
       case rel =>
        refine ⟨k, oa9, tn + 1, oc9, T ++ [(.slice ra (ll + 1) rc, (t, .slice ta tm tc) :: L)], Qs ++ [(R.take k).drop q], hkn, rfl, rfl, by rw [Ql, HTN.out]; rfl, HPU.out, by rw [Ql, Ql, HTL.out]; rfl, ?_, HSA.out.1, HSA.out.2, hek, HB9.out⟩
        intro i p x hp hx
        rcases Jc i T.length with hi | hi
        ·rw [Jd (by rw [<- HTL.out]; exact hi)] at hp
         rw [Jd hi] at hx
         exact HRO.out i p x hp hx
        ·have hi2 : i = T.length := by have := (Qx.1 hx).1; rw [Ql] at this; simp at this; omega
         subst hi2
         rw [Je (Qi _), Qv] at hx
         rw [HTL.out, Je (Qi _), Qv] at hp
         cases hx
         cases hp
         refine ⟨L.map Prod.fst, ?_, ?_⟩
         ·rw [if_pos (by omega)]
          have h1 : ((R.take k).drop q).headD [] = y.map Prod.fst := by
           have h2 : ((R.take k).drop q)[0]? = some (y.map Prod.fst) := by rw [Jp, Jq (by omega), Jh]; exact HRQ.out.1
           cases hc : (R.take k).drop q with
           | nil => rw [hc] at h2; cases h2
           | cons a l => rw [hc] at h2; cases h2; rfl
          rw [h1, <- HRQ.out.2]
          rfl
         ·have h := HTOT.out
          rw [HPR.out] at h
          rw [h, Qt]
          rfl
       case measure => simp [intOf]; omega
      ·have HNO := hid hno
       have HAM := hid ha
       have HBF := hid (zAa HB5w.out HB7.out)
       clear hno ha HALL
       obtain ⟨Q2, hQ1, hQ2⟩ := zDu zBf HSRT.out _ (Qi _) (by rw [HRN.out]; exact hkn) HSA.out.1 HSA.out.2 hek
       have HQ1 := hid hQ1
       have HQ2 := hid hQ2
       clear hQ1 hQ2
       go_wp2_with fail
       go_ret2
       refine ⟨⟨(Qs ++ [(R.take k).drop q]) ++ Q2, ⟨fun _ => ⟨by rw [HQ2.out]; exact HRP.out, HQ1.out⟩, fun h => by omega⟩, .inr ⟨rfl, (R.take k).drop q, by simp, a, HAM.out, by rw [<- HPR.out]; exact HNO.out⟩⟩, HBF.out⟩
   ·have hlti : ¬ (q : Int) < (n : Int) := by omega
    obtain ⟨Q2, hQ1, hQ2⟩ := zDu zBf HSRT.out _ (Qi _) (by rw [HRN.out]; exact hq) HPT.out HFL.out HEK.out
    have hfe : Qs.flatten = R := by rw [HFL.out, List.take_of_length_le (by rw [HRN.out]; omega)]
    have HFE := hid hfe
    clear hQ1 hQ2 hfe
    go_wp2_with fail
    go_ret2
    refine ⟨⟨Qs, ⟨fun _ => ⟨by rw [HFE.out]; exact HRP.out, HPT.out⟩, fun h => by omega⟩, .inl ⟨_, T, rfl, HOF.out.rd.1, HOF.out.rd.2, HTL.out, HRO.out⟩⟩, zAa HB5w.out HBo.out⟩
end Go.Proofs.Ytnfjdoeemnhkbaa
