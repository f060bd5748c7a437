import Derived.Test.YtnfjdoeemnhkbaaAgg
import Derived.Laws.Externs
set_option linter.unusedVariables false
set_option linter.unusedSimpArgs false
set_option maxRecDepth 100000
set_option maxHeartbeats 8000000
open Go.Lib (hid)
namespace Go.Proofs.Ytnfjdoeemnhkbaa
open Go.RowKit Sy
open Go.IntWalk renaming i64_in -> Qa
open _root_.List renaming length_map -> Qb, mem_of_getElem? -> Qc
open Go renaming cell_of_row -> Qd, frozen_of_row -> Qe
theorem zAp {P : Program} {fn : Func} {p q : Tmp} {ty : TypeId} (h : fn.results = #[.cell p ty, .tmp q]) (tmps : Array Value) (w : World) (g : Nat) (t : TypeId) (cs : Array Value) (fr : Nat × Nat) (d : TypeDesc) (v : Value)
  (hp : tmps.getD p undef = .pointer (some ⟨g, 0, none⟩)) (hq : tmps.getD q undef = v) (hg : w.heap[g]? = some (.cells cs t fr))
  (hu : P.underlying ty = some d) (hd : (match d with | .struct _ | .array _ _ => true | _ => false) = true) (hi : (P.info? ty).map (·.size) = some cs.size) :
  (results fn tmps).run P w = .ok (.tuple #[.agg cs, v]) w := by
 have hp' : tmps[p]?.getD undef = .pointer (some ⟨g, 0, none⟩) := by simpa using hp
 have hq' : tmps[q]?.getD undef = v := by simpa using hq
 simp [results, h, hp', hq', asAddr, run_loadVar_row w g t ty cs fr d hg hu hd hi]
def I64 (n : Int) : Prop := -9223372036854775808 <= n ∧ n <= 9223372036854775807
def RetTot (o : Option Vc) (e : Ending) (w' : World) : Prop := match o with
 | some x => ∃ s, e = .returned (.tuple #[aggV (x, s), .bool true]) ∧ OkV w' (x, s)
 | none => e = .returned (.tuple #[.agg #[.bool false, .int .i64 0, .int .i64 0, .slice none 0 0], .bool false])
theorem zKm {x : El} (c : Int) : addT c x.row = if (atP x.2 c).1.u = true then 0 else (atP x.2 c).1.n := by
 rw [zBo]
 rfl
theorem zLe {x : El} (h : ∀ t ∈ x.2, I64 t.1.n) (c : Int) : I64 (addT c x.row) ∧ I64 (atP x.2 c).1.n := by
 have h1 : I64 (atP x.2 c).1.n := by
  rcases zC5 x.2 c with h2 | h2
  ·rw [h2]; unfold nilQ I64; simp
  ·exact h _ h2
 refine ⟨?_, h1⟩
 rw [zKm]
 split
 ·unfold I64; simp
 ·exact h1
theorem zOx (E : List El) (hE : E.length <= 1000000) (v : Value) (c : Int) (w : World) (hv : Rd w v (E.map Prod.fst)) (hr : ∀ x ∈ E, RdP w x.1 x.2 ∧ x.2.length <= 1000000) (hi : ∀ x ∈ E, ∀ t ∈ x.2, I64 t.1.n) :
  Calls Try.prog 81 #[v, .int .i64 c] w fun e w' => RetTot (totT (E.map El.row) 2 c) e w' ∧ Below w.heap.size w w' := by
 obtain ⟨ao, cap, hvs⟩ : ∃ ao cap, v = .slice ao (E.map Prod.fst).length cap := by obtain ⟨ao, cap, h, _⟩ := hv; exact ⟨ao, cap, h⟩
 subst hvs
 obtain ⟨n, hN⟩ : ∃ n, n = E.length := ⟨_, rfl⟩
 rw [Qb, <- hN] at hv ⊢
 rw [<- hN] at hE
 have HN := hid hN
 have HV := hid hv
 have HR := hid hr
 have HI := hid hi
 clear hN hv hr hi
 go_enter Try.func81, Try.ntmps81
 go_upto_region 1 with (fail)
 obtain ⟨W, hW⟩ : ∃ W : World, W = w.alloc (.cells #[.bool false, .int .i64 0, .int .i64 0, .slice none 0 0] 36) := ⟨_, rfl⟩
 obtain ⟨X, hX⟩ : ∃ X, X = w.heap.size := ⟨_, rfl⟩
 have HX := hid (show W.heap[X]? = some (.cells #[.bool false, .int .i64 0, .int .i64 0, .slice none 0 0] 36 (0, 0)) by rw [hW, hX]; exact heap_alloc_new w _)
 have HBW := hid (show Below w.heap.size w W by rw [hW]; exact zAi w _)
 rw [<- hW, <- hX]
 have HXE := hid hX
 have HWS := hid (show W.heap.size = X + 1 by rw [hW, hX]; simp)
 clear hW hX
 go_wp2_with fail
 go_loopw [6, 7, 8, 15] (fun lo ca hi i wr => ∃ (q : Nat) (l k h : Int), q <= n ∧ i = .int .i64 (q : Int) ∧ lo = .int .u64 l ∧ ca = .int .u64 k ∧ hi = .int .i64 h ∧ 0 <= l ∧ l < 18446744073709551616 ∧ -(q : Int) <= h ∧ h <= (q : Int) ∧ h * 18446744073709551616 + l = sumT ((E.take q).map El.row) c ∧ Below W.heap.size W wr) (fun _ _ _ i _ => n - (intOf i).toNat)
 case atStart => exact ⟨0, 0, 0, 0, Nat.zero_le _, rfl, rfl, rfl, rfl, by omega, by omega, by omega, by omega, by simp [sumT], Below.refl _ _⟩
 case round =>
  obtain ⟨q, l, k, h, hq, rfl, rfl, rfl, rfl, hl0, hl1, hh0, hh1, hS, hb⟩ := hrel
  have HS := hid hS
  have HB := hid hb
  have HBw := hid (zAa HBW.out hb)
  have HXr := hid ((hb.block X (Array.getElem?_eq_some_iff.1 HX.out).1).trans HX.out)
  clear hS hb
  by_cases hlt : q < n
  ·obtain ⟨t, ht⟩ : ∃ t, E[q]? = some t := ⟨_, List.getElem?_eq_getElem (by rw [<- HN.out]; exact hlt)⟩
   have HTK := hid (show sumT ((E.take (q + 1)).map El.row) c = sumT ((E.take q).map El.row) c + addT c t.row by rw [List.take_add_one, ht, List.map_append]; exact zMj _ _ _)
   obtain ⟨hok, hl6⟩ := HR.out t (Qc ht)
   have hsm := zLe (HI.out t (Qc ht)) c
   have HAD := hid (zKm (x := t) c)
   have HCALL := hid (zEv t.2 t.1 c wr (hok.kept HBw.out) hl6)
   obtain ⟨b, off, rfl, hcell⟩ := (zA4 (HV.out.kept HBw.out)).2 (by omega)
   obtain ⟨sa, sc, hes⟩ := zAl hok.1
   have k0 : wr.cell? ⟨b, off + q, none⟩ = some t.1 := hcell q t.1 hlt (by rw [List.getElem?_map, ht]; rfl)
   rw [hes, Qb] at k0 HCALL
   obtain ⟨tn, htn⟩ : ∃ tn, tn = t.2.length := ⟨_, rfl⟩
   rw [<- htn] at k0 HCALL
   obtain ⟨p, hp⟩ : ∃ p, p = atP t.2 c := ⟨_, rfl⟩
   rw [<- hp] at HCALL hsm HAD
   obtain ⟨pa, pc, hps⟩ := zAo (show Rd w p.2 (p.1.b.map u8v) by rw [hp]; exact (zCw hok c).1)
   obtain ⟨⟨pu, pk, pn, pb⟩, pv⟩ := p
   simp only at hps hsm HAD
   subst hps
   obtain ⟨pm, hpm⟩ : ∃ pm, pm = pb.length := ⟨_, rfl⟩
   unfold aggV at HCALL
   simp only at HCALL
   rw [<- hpm] at HCALL
   have hlti : (q : Int) < (n : Int) := by omega
   have hq0 : (0 : Int) <= (q : Int) := by omega
   have HSM := hid hsm.2
   clear hok hcell ht hes hl6 htn hp hpm hsm
   go_wp2_with fail
   refine HCALL.out.mono ?_
   rintro e w2 ⟨rfl, hb2⟩
   have HB2 := hid (zAe (zAa HB.out hb2) (.cells #[.bool pu, .int .i64 pk, .int .i64 pn, .slice pa pm pc] 36))
   clear hb2 k0
   cases pu with
   | true =>
    simp only [if_true] at HAD
    go_wp2_with fail
    go_roundw
    case rel =>
     exact ⟨q + 1, l, k, h, by omega, by go_num, rfl, rfl, rfl, hl0, hl1, by omega, by omega, by rw [HTK.out, HAD.out, HS.out]; omega, HB2.out⟩
    case measure => simp [intOf]; omega
   | false =>
    simp only [Bool.false_eq_true, if_false] at HAD
    obtain ⟨U, hU⟩ : ∃ U, U = pn % 18446744073709551616 := ⟨_, rfl⟩
    have hpn := HSM.out
    unfold I64 at hpn
    have e1 : IntKind.u64.wrap pn = U := by rw [hU]; simp [IntKind.wrap, IntKind.bits, IntKind.signed]
    obtain ⟨L2, hL2⟩ : ∃ L2, L2 = (l + U + 0) % 18446744073709551616 := ⟨_, rfl⟩
    obtain ⟨C2, hC2⟩ : ∃ C2, C2 = (l + U + 0) / 18446744073709551616 := ⟨_, rfl⟩
    have HADD := hid (fun w' : World => run_add64 (P := Try.prog) l U 0 hl0 (by omega) (by omega) (by omega) w')
    rw [<- hL2, <- hC2] at HADD
    obtain ⟨s, hs⟩ : ∃ s, s = pn / 9223372036854775808 := ⟨_, rfl⟩
    have e2 : IntKind.i64.wrap C2 = C2 := Qa _ (by omega)
    have e3 : pn / 9223372036854775808 = s := hs.symm
    have e4 : IntKind.i64.wrap (s + C2) = s + C2 := Qa _ (by omega)
    obtain ⟨h2, hh2⟩ : ∃ h2, h2 = h + (s + C2) := ⟨_, rfl⟩
    have e5 : IntKind.i64.wrap (h + (s + C2)) = h2 := by rw [hh2]; exact Qa _ (by omega)
    have e6 : IntKind.i64.wrap s = s := Qa _ (by omega)
    have HARI := hid (show 0 <= L2 ∧ L2 < 18446744073709551616 ∧ -((q : Int) + 1) <= h2 ∧ h2 <= (q : Int) + 1 ∧ h2 * 18446744073709551616 + L2 = h * 18446744073709551616 + l + pn by omega)
    clear hU hL2 hC2 hs hh2 hpn
    go_wp2_with fail
    rw [run_callFunc_extern Try.func111 (by kernel_rfl) (by kernel_rfl) (by kernel_rfl) (e := add64Entry) (by kernel_rfl), HADD.out]
    simp only [Result.andThen]
    rw [Oper.upon_value]
    go_wp2_with fail
    go_roundw
    case rel =>
     obtain ⟨a1, a2, a3, a4, a5⟩ := HARI.out
     exact ⟨q + 1, L2, C2, h2, by omega, by go_num, rfl, rfl, rfl, a1, a2, by omega, by omega, by rw [HTK.out, HAD.out, <- HS.out]; exact a5, HB2.out⟩
    case measure => simp [intOf]; omega
  ·have hqn : q = n := by omega
   have hlti : ¬ (q : Int) < (n : Int) := by omega
   subst hqn
   have HTE := hid (show sumT ((E.take q).map El.row) c = sumT (E.map El.row) c by rw [List.take_of_length_le (by rw [<- HN.out]; exact Nat.le_refl _)])
   obtain ⟨S, hS⟩ : ∃ S, S = sumT (E.map El.row) c := ⟨_, rfl⟩
   have hLS : h * 18446744073709551616 + l = S := by rw [HS.out, HTE.out, hS]
   obtain ⟨v, hv⟩ : ∃ v, v = if l < 9223372036854775808 then l else l - 18446744073709551616 := ⟨_, rfl⟩
   have e1 : IntKind.i64.wrap l = v := by
    rw [hv]
    by_cases h63 : l < 9223372036854775808
    ·rw [if_pos h63]; exact Qa _ (by omega)
    ·rw [if_neg h63]
     have h64 := Qa (l - 18446744073709551616) (by omega)
     rw [<- h64]
     simp only [IntKind.wrap, IntKind.bits, IntKind.signed]
     simp
   obtain ⟨s, hs⟩ : ∃ s, s = v / 9223372036854775808 := ⟨_, rfl⟩
   have e3 : v / 9223372036854775808 = s := hs.symm
   have c0 : wr.cell? ⟨X, 0, none⟩ = some (.bool false) := by rw [Qd wr X 0 _ _ _ HXr.out]; rfl
   have c1 : wr.cell? ⟨X, 1, none⟩ = some (.int .i64 0) := by rw [Qd wr X 1 _ _ _ HXr.out]; rfl
   have c2 : wr.cell? ⟨X, 2, none⟩ = some (.int .i64 0) := by rw [Qd wr X 2 _ _ _ HXr.out]; rfl
   have c3 : wr.cell? ⟨X, 3, none⟩ = some (.slice none 0 0) := by rw [Qd wr X 3 _ _ _ HXr.out]; rfl
   have f0 : wr.frozen? ⟨X, 0, none⟩ = false := Qe wr X 0 _ _ HXr.out
   have f1 : wr.frozen? ⟨X, 1, none⟩ = false := Qe wr X 1 _ _ HXr.out
   have f2 : wr.frozen? ⟨X, 2, none⟩ = false := Qe wr X 2 _ _ HXr.out
   have f3 : wr.frozen? ⟨X, 3, none⟩ = false := Qe wr X 3 _ _ HXr.out
   have hx := HXE.out
   have HBF := hid (fun a b d e => (((HBw.out.setCell (p := ⟨X, 0, none⟩) (by show _ <= X; omega) a).setCell (p := ⟨X, 1, none⟩) (by show _ <= X; omega) b).setCell (p := ⟨X, 2, none⟩) (by show _ <= X; omega) d).setCell (p := ⟨X, 3, none⟩) (by show _ <= X; omega) e)
   clear hx
   by_cases hin : -9223372036854775808 <= S ∧ S < 9223372036854775808
   ·obtain rfl : s = h := by
     rw [hs, hv]
     split <;> omega
    have hvS : v = S := by rw [hv]; split <;> omega
    have HT := hid (show totT (E.map El.row) 2 c = some ⟨false, 1, v, []⟩ by
     unfold totT
     rw [if_neg (by decide), if_pos rfl, <- hS, if_pos hin, hvS])
    have hne : (s != s) = false := by simp
    clear hS hLS hv hs hin hvS hh0 hh1 hl0 hl1
    go_wp2_with fail
    (try simp only [Exit.inBlock, Exit.then])
    refine bodyPost_ret (zAp rfl _ _ X _ _ (0, 0) _ _ rfl rfl (zAu HXr.out) Try.underlying36 rfl zAz) rfl ?_
    rw [HT.out]
    exact ⟨⟨.slice none 0 0, rfl, Rd.nil _, fun x hx => by cases hx⟩, HBF.out _ _ _ _⟩
   ·have hne0 : h ≠ s := by
     rw [hs, hv]
     split <;> omega
    have HT := hid (show totT (E.map El.row) 2 c = none by
     unfold totT
     rw [if_neg (by decide), if_pos rfl, <- hS, if_neg hin])
    have hne : (h != s) = true := by simp [hne0]
    clear hS hLS hv hs hin hh0 hh1 hl0 hl1
    go_wp2_with fail
    (try simp only [Exit.inBlock, Exit.then])
    refine bodyPost_ret (zAp rfl _ _ X _ _ (0, 0) _ _ rfl rfl (zAu HXr.out) Try.underlying36 rfl zAz) rfl ?_
    rw [HT.out]
    exact ⟨rfl, HBF.out _ _ _ _⟩
end Go.Proofs.Ytnfjdoeemnhkbaa
