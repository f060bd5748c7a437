import Derived.Test.YtnfjdoeemnhkbaaRff
set_option linter.unusedVariables false
set_option linter.unusedSimpArgs false
set_option maxRecDepth 100000
set_option maxHeartbeats 8000000
open Go.Lib (hid)
namespace Go.Proofs.Ytnfjdoeemnhkbaa
open Go.RowKit Sy
open _root_.List renaming map_append -> Qa, mem_of_getElem? -> Qb
open _root_.Nat renaming le_refl -> Qc, le_trans -> Qd
def AgOK (E : List El) (a : Int × Int) : Prop := (a.1 = 1 ∨ a.1 = 2 ∨ a.1 = 3 ∨ a.1 = 4) ∧ ∃ (c : Nat) (kk : Int), a.2 = (c : Int) ∧ (kk = 1 ∨ kk = 2) ∧ ∀ x ∈ E, c < x.2.length ∧ NormV (atT x.row c) ∧ (atT x.row c).k = kk ∧ I64 (atT x.row c).n
def RetAll (K : Nat) (w : World) (R : List (List Vc)) (ags : List (Int × Int)) (e : Ending) (w' : World) : Prop :=
 (∃ (v : Value) (L : List (Vc × Value)), e = .returned (.tuple #[v, .bool true]) ∧ w'.ownsRow K 36 4 v L.length (L.map cellsV).flatten ∧ (∀ t ∈ L, OkV w t) ∧ ags.map (fun a => totT R a.1 a.2) = L.map fun t => some t.1) ∨
 (e = .returned (.tuple #[.slice none 0 0, .bool false]) ∧ ∃ a ∈ ags, totT R a.1 a.2 = none)
theorem zG2 (E : List El) (ags : List (Int × Int)) (hl : E.length <= 1000000) (hm6 : ags.length <= 1000) (v av : Value) (w0 w : World) (hb0 : Below w0.heap.size w0 w) (hv : Rd w v (E.map Prod.fst)) (hr : ∀ x ∈ E, RdP w x.1 x.2 ∧ x.2.length <= 1000 ∧ ∀ t ∈ x.2, OkV w0 t) (hav : RdS w 2 av (ags.map fun a => [.int .i64 a.1, .int .i64 a.2])) (hok : ∀ a ∈ ags, AgOK E a) :
  Calls Try.prog 54 #[v, av] w fun e w' => RetAll w.heap.size w0 (E.map El.row) ags e w' ∧ Below w.heap.size w w' := by
 obtain ⟨aa, ac, rfl⟩ := zAl hav
 obtain ⟨m, hm⟩ : ∃ m, m = ags.length := ⟨_, rfl⟩
 rw [List.length_map, <- hm] at hav ⊢
 rw [<- hm] at hm6
 have HM := hid hm
 have HAV := hid hav
 have HAK := hid hok
 have HONE := hid (show ∀ a ∈ ags, ∀ w', Below w.heap.size w w' -> Calls Try.prog 88 #[v, .agg #[.int .i64 a.1, .int .i64 a.2]] w' fun e w'' => RetO w0 (totT (E.map El.row) a.1 a.2) e ∧ Below w'.heap.size w' w'' from fun a ha w' hb => by
  obtain ⟨h1, c, kk, hc, hkk, h2⟩ := hok a ha
  rw [hc]
  exact zN4 kk hkk E a.1 c h1 hl v w0 w' (zAa hb0 hb) (hv.kept hb) (fun x hx => ⟨(hr x hx).1.kept hb, (h2 x hx).1, (hr x hx).2.1⟩) (fun x hx => (hr x hx).2.2) fun x hx => (h2 x hx).2)
 clear hm hv hr hav hok
 go_enter Try.func54, Try.ntmps54
 go_wp2_with fail
 go_loopw [6, 7] (fun o i wr => ∃ (q : Nat) (oa : Option Addr) (oc : Nat) (L : List (Vc × Value)), q <= m ∧ i = .int .i64 (q : Int) ∧ o = .slice oa q oc ∧ L.length = q ∧ wr.ownsRow w.heap.size 36 4 (.slice oa q oc) q (L.map cellsV).flatten ∧ (∀ t ∈ L, OkV w0 t) ∧ (ags.take q).map (fun a => totT (E.map El.row) a.1 a.2) = (L.map fun t => some t.1) ∧ Below w.heap.size w wr) (fun _ i _ => m - (intOf i).toNat)
 case atStart => exact ⟨0, none, 0, [], Nat.zero_le _, rfl, rfl, rfl, World.ownsRow_nil .., fun t ht => (by cases ht), rfl, Below.refl _ _⟩
 case round =>
  obtain ⟨q, oa, oc, L, hq, rfl, rfl, hll, hown, hlk, hlt0, hb⟩ := hrel
  have HLL := hid hll
  have HO := hid hown
  have HLK := hid hlk
  have HLT := hid hlt0
  have HB := hid hb
  clear hll hown hlk hlt0 hb
  by_cases hlt : q < m
  ·obtain ⟨a, ha⟩ : ∃ a, ags[q]? = some a := ⟨_, List.getElem?_eq_getElem (by rw [<- HM.out]; exact hlt)⟩
   obtain ⟨ab, ao, hab, hcell⟩ := (HAV.out.kept HB.out).at (k := q) (t := [.int .i64 a.1, .int .i64 a.2]) (by rw [List.getElem?_map, ha]; rfl)
   subst hab
   have k0 : wr.cell? ⟨ab, ao + q * 2, none⟩ = some (.int .i64 a.1) := hcell 0 _ rfl
   have k1 : wr.cell? ⟨ab, ao + q * 2 + 1, none⟩ = some (.int .i64 a.2) := hcell 1 _ rfl
   have HAM := hid (Qb ha)
   have HTS := hid (show ags.take (q + 1) = ags.take q ++ [a] from zA7 ha)
   have HON1 := hid (HONE.out a (Qb ha) wr HB.out)
   have hlti : (q : Int) < (m : Int) := by omega
   have hq0 : (0 : Int) <= (q : Int) := by omega
   have hq1 : IntKind.i64.wrap ((q : Int) + 1) = (q : Int) + 1 := IntWalk.i64_in _ (by omega)
   clear ha hcell
   go_wp2_with fail
   refine HON1.out.mono ?_
   rintro e w2 ⟨hret, hb2⟩
   have HB2 := hid hb2
   have HBB := hid (zAa HB.out hb2)
   clear hb2 k0 k1 HON1
   cases htot : totT (E.map El.row) a.1 a.2 with
   | none =>
    rw [htot] at hret
    obtain ⟨z, za, zm, zc, rfl⟩ := hret
    have HTT := hid htot
    clear htot
    go_wp2_with fail
    go_ret2
    exact ⟨.inr ⟨rfl, a, HAM.out, HTT.out⟩, zAe HBB.out _⟩
   | some t =>
    rw [htot] at hret
    obtain ⟨ts, rfl, hokt⟩ := hret
    obtain ⟨ta, tc, hts⟩ := zAo hokt.1
    obtain ⟨tm, htm⟩ : ∃ tm, tm = t.b.length := ⟨_, rfl⟩
    simp only at hts
    rw [<- htm] at hts
    subst hts
    unfold aggV
    have HTT := hid htot
    have HOKT := hid hokt
    clear htot hokt htm
    go_upto_region 8 with (fail)
    obtain ⟨W3, hW3⟩ : ∃ W3 : World, W3 = w2.alloc (.cells #[.bool t.u, .int .i64 t.k, .int .i64 t.n, .slice ta tm tc] 36) := ⟨_, rfl⟩
    obtain ⟨X3, hX3⟩ : ∃ X3, X3 = w2.heap.size := ⟨_, rfl⟩
    have hx3 : W3.heap[X3]? = some (.cells #[.bool t.u, .int .i64 t.k, .int .i64 t.n, .slice ta tm tc] 36 (0, 0)) := by rw [hW3, hX3]; exact heap_alloc_new w2 _
    have hb3 : Below wr.heap.size wr W3 := by rw [hW3]; exact zAe HB2.out _
    have hb23 : Below w2.heap.size w2 W3 := by rw [hW3]; exact zAi w2 _
    rw [<- hW3, <- hX3]
    obtain ⟨c0, c1, c2, c3, _⟩ := zA2 hx3
    have HB3 := hid hb3
    have HB23 := hid hb23
    clear hW3 hX3 hb3 hb23 hx3
    have HOWN := hid (zAf HO.out (zAc (zAe HB3.out (.cells #[.bool t.u, .int .i64 t.k, .int .i64 t.n, .slice ta tm tc] 36))) (Qc _))
    have HRD := hid (zAv (heap_alloc_new W3 (.cells #[.bool t.u, .int .i64 t.k, .int .i64 t.n, .slice ta tm tc] 36)) 4)
    have HSZ := hid (show w.heap.size <= (W3.alloc (.cells #[.bool t.u, .int .i64 t.k, .int .i64 t.n, .slice ta tm tc] 36)).heap.size from Qd HB.out.size (Qd HB3.out.size (by simp)))
    go_wp2_with (at_builtin; go_must (refine zAq zCc rfl _ _ rfl w.heap.size _ _ _ rfl HOWN.out _ _ rfl HRD.out (zDm t.u t.k t.n ta tm tc) (by simp; omega) HSZ.out (q + 1) rfl ?_); intro la2 lc2 w8 hown8 hg8 hn8; have HO8 := hid hown8; have HG8 := hid hg8; clear hown8 hg8 hn8; have HB8 := hid ((zAa HB.out (zAe HB3.out (.cells #[.bool t.u, .int .i64 t.k, .int .i64 t.n, .slice ta tm tc] 36))).grown HG8.out HSZ.out (zAg HOWN.out)))
    go_roundw
    case rel =>
     refine ⟨q + 1, la2, lc2, L ++ [(t, .slice ta tm tc)], by omega, by go_num, rfl, by rw [List.length_append, HLL.out]; rfl, ?_, ?_, ?_, HB8.out⟩
     ·have h := HO8.out
      rw [Qa, List.flatten_append]
      exact h
     ·exact fun u hu => (List.mem_append.1 hu).elim (HLK.out u) fun h => by rw [List.mem_singleton.1 h]; exact HOKT.out
     ·rw [HTS.out, Qa, Qa, HLT.out, List.map_cons, HTT.out]
      rfl
    case measure => simp [intOf]; omega
  ·have hlti : ¬ (q : Int) < (m : Int) := by omega
   obtain rfl : q = m := by omega
   go_wp2_with fail
   go_ret2
   refine ⟨.inl ⟨_, L, rfl, ?_, ?_, ?_⟩, HB.out⟩
   ·rw [HLL.out]; exact HO.out
   ·exact HLK.out
   ·have h := HLT.out
    rw [List.take_of_length_le (by rw [<- HM.out]; exact Qc _)] at h
    exact h
end Go.Proofs.Ytnfjdoeemnhkbaa
