import Derived.Test.YtnfjdoeemnhkbaaAgi
import Derived.Test.YtnfjdoeemnhkbaaFrAp
set_option linter.unusedVariables false
set_option linter.unusedSimpArgs false
set_option maxRecDepth 100000
set_option maxHeartbeats 8000000
open Go.Lib (hid)
namespace Go.Proofs.Ytnfjdoeemnhkbaa
open Go.RowKit Sy
open _root_.List renaming length_map -> Qa
open Go.RowKit.Below renaming refl -> Qb
theorem zAm : Elm Try.prog 27 33 1 24 := by
 have h : (Try.prog.info? 33).map (fun i => (i.zero, i.size, i.bytes)) = some (some (.slice none 0 0), 1, 24) := by kernel_rfl
 cases hq : Try.prog.info? 33 with
 | none => rw [hq] at h; cases h
 | some i =>
  rw [hq] at h
  simp only [Option.map_some, Option.some.injEq, Prod.mk.injEq] at h
  exact ⟨Try.underlying27, ⟨i, _, hq, h.1, h.2.1, h.2.2, rfl⟩, by decide, by decide⟩
theorem zLf (E : List El) (lv : Value) (w : World) (hl : E.length <= 1000000) (hr : Rd w lv (E.map Prod.fst)) (hs : ∀ x ∈ E, ∃ a m c, x.1 = .slice a m c) :
  Calls Try.prog 80 #[lv] w fun e w' => ∃ v, e = .returned v ∧ w'.ownsRow w.heap.size 33 1 v E.length (E.map Prod.fst) ∧ Below w.heap.size w w' := by
 obtain ⟨ao, cap, hvs⟩ : ∃ ao cap, lv = .slice ao (E.map Prod.fst).length cap := by obtain ⟨ao, cap, h, _⟩ := hr; exact ⟨ao, cap, h⟩
 subst hvs
 rw [Qa] at hr ⊢
 have HR := hid hr
 rcases ao with _ | ⟨b, off, p⟩
 ·obtain ⟨ao', cap', hv, hn, _⟩ := hr
  simp only [Value.slice.injEq, Qa] at hv hn
  have hcap := hn.1 hv.1.symm
  have hl0 : E = [] := List.length_eq_zero_iff.1 (by omega)
  have hc0 : cap = 0 := by omega
  clear hv hn hcap HR
  subst hl0
  subst hc0
  have heq := fun (w' : World) => Lib.run_eql_slice_nil (P := Try.prog) w' 27 33 none 0 0 0 0 Try.underlying27
  go_enter Try.func80, Try.ntmps80
  go_wp2_with fail
  go_ret
  exact ⟨_, rfl, ⟨rfl, .inl ⟨rfl, rfl⟩⟩, Qb _ _⟩
 ·obtain ⟨n, hn⟩ : ∃ n, n = E.length := ⟨_, rfl⟩
  rw [<- hn] at HR ⊢
  have HN := hid hn
  rw [<- hn] at hl
  clear hr hn
  have heq := fun (w' : World) => Lib.run_eql_slice_nil (P := Try.prog) w' 27 33 (some ⟨b, off, p⟩) n cap 0 0 Try.underlying27
  have HRS := hid fun (w' : World) (h : Below w.heap.size w w') => zNm (HR.out.kept h)
  have HONE := hid (zFt (xs := E.map Prod.fst) (fun u hu => by obtain ⟨x, hx, rfl⟩ := List.mem_map.1 hu; obtain ⟨a, m, c, h⟩ := hs x hx; rw [h]; rfl))
  clear hs
  go_enter Try.func80, Try.ntmps80
  have HOE := hid (show (w.alloc (.cells #[] 33)).ownsRow w.heap.size 33 1 (.slice (some ⟨w.heap.size, 0, none⟩) 0 0) 0 [] from World.ownsRow_lit w #[] 0 (Nat.le_refl _) (by unfold maxLen; omega) rfl)
  have HRA := hid (HRS.out _ (zAi w (.cells #[] 33)))
  have hszB : w.heap.size <= (w.alloc (.cells #[] 33)).heap.size := by simp
  have hLn := show 0 + ((E.map Prod.fst).map fun u => [u]).length <= 10000000 by rw [Qa, Qa, <- HN.out]; omega
  have hLn2 := show 0 + ((E.map Prod.fst).map fun u => [u]).length = n by rw [Qa, Qa, <- HN.out]; omega
  have HL1 := hid hLn
  have HL2 := hid hLn2
  clear hLn hLn2
  go_wp2_with (at_builtin; go_must (refine zAq zAm rfl _ _ rfl w.heap.size _ _ _ rfl HOE.out _ _ rfl HRA.out HONE.out HL1.out hszB n HL2.out ?_); intro ao4 cap4 w4 hown4 hgrow4 hnew4; have HO4 := hid hown4; have HG4 := hid hgrow4; clear hown4 hgrow4 hnew4)
  go_ret
  refine ⟨_, rfl, ?_, ?_⟩
  ·have h := HO4.out
   rw [List.nil_append, zCi] at h
   exact h
  ·exact (zAi w _).grown HG4.out (by simp) (zAg HOE.out)
theorem zHj (x y : El) (X : Nat) (g : Int) (fz : Nat × Nat) (w : World) (hX : w.heap[X]? = some (.cells #[.int .i64 g] 3 fz)) (hx : RdP w x.1 x.2) (hy : RdP w y.1 y.2) (hlx : x.2.length <= 1000000) (hly : y.2.length <= 1000000) :
  Calls Try.prog 78 #[x.1, y.1, .pointer (some ⟨X, 0, none⟩)] w fun e w' => e = .returned (.int .i64 (cmpT (atP x.2 g).1 (atP y.2 g).1)) ∧ Below w.heap.size w w' := by
 have HA := hid (fun w' (h : Below w.heap.size w w') => zEv x.2 x.1 g w' (hx.kept h) hlx)
 have HB := hid (fun w' (h : Below w.heap.size w w') => zEv y.2 y.1 g w' (hy.kept h) hly)
 have HC := hid (fun w' (h : Below w.heap.size w w') => zEn (atP x.2 g) (atP y.2 g) w' ((zCw hx g).kept h) ((zCw hy g).kept h))
 have hox := (zCw hx g).1
 have hoy := (zCw hy g).1
 obtain ⟨xa, xc, hxs⟩ := zAl hx.1
 obtain ⟨ya, yc, hys⟩ := zAl hy.1
 rw [Qa] at hxs hys
 obtain ⟨xn, hxn⟩ : ∃ xn, xn = x.2.length := ⟨_, rfl⟩
 obtain ⟨yn, hyn⟩ : ∃ yn, yn = y.2.length := ⟨_, rfl⟩
 rw [<- hxn] at hxs
 rw [<- hyn] at hys
 rw [hxs] at HA ⊢
 rw [hys] at HB ⊢
 obtain ⟨p, hp⟩ : ∃ p, p = atP x.2 g := ⟨_, rfl⟩
 obtain ⟨q, hq⟩ : ∃ q, q = atP y.2 g := ⟨_, rfl⟩
 rw [<- hp] at HA HC hox ⊢
 rw [<- hq] at HB HC hoy ⊢
 obtain ⟨pa, pc, hps⟩ := zAo hox
 obtain ⟨qa, qc, hqs⟩ := zAo hoy
 obtain ⟨⟨pu, pk, pn, pb⟩, pv⟩ := p
 obtain ⟨⟨qu, qk, qn, qb⟩, qv⟩ := q
 simp only at hps hqs
 subst hps hqs
 obtain ⟨R, hR⟩ : ∃ R, R = cmpT ⟨pu, pk, pn, pb⟩ ⟨qu, qk, qn, qb⟩ := ⟨_, rfl⟩
 simp only at HC ⊢
 rw [<- hR] at HC ⊢
 obtain ⟨pm, hpm⟩ : ∃ pm, pm = pb.length := ⟨_, rfl⟩
 obtain ⟨qm, hqm⟩ : ∃ qm, qm = qb.length := ⟨_, rfl⟩
 unfold aggV at HA HB HC
 simp only at HA HB HC
 rw [<- hpm] at HA HC
 rw [<- hqm] at HB HC
 have cX : w.cell? ⟨X, 0, none⟩ = some (.int .i64 g) := by rw [cell_of_row w X 0 _ _ _ hX]; rfl
 have HCX := hid (fun w' (h : Below w.heap.size w w') => show w'.cell? ⟨X, 0, none⟩ = some (.int .i64 g) ∧ Below w.heap.size w w' from ⟨(h.cell (World.block_lt_of_cell? _ _ cX)).trans cX, h⟩)
 clear hxs hys hxn hyn hp hq hpm hqm hR hox hoy hx hy hX hlx hly
 go_enter Try.func78, Try.ntmps78
 go_upto_region 1 with (fail)
 have hS := Qb w.heap.size w
 set_option maxRecDepth 1000000 in
 go_region_held3 (fun w' => w'.cell? ⟨X, 0, none⟩ = some (.int .i64 g) ∧ Below w.heap.size w w') (first | assumption | exact HCX.out _ (by assumption) | exact ⟨cX, zAb _ _⟩)
  (first
   | (go_at_call_of 45 (Value.slice xa xn xc); refine (HA.out _ ?_).mono ?_; (first | (with_reducible assumption) | exact zAb _ _ | fail); rintro e w2 ⟨rfl, hb⟩; have hS2 : Below w.heap.size w w2 := (by first | exact zAa (zAb _ _) hb | exact zAa (by assumption) hb))
   | (go_at_call_of 45 (Value.slice ya yn yc); refine (HB.out _ ?_).mono ?_; (first | (with_reducible assumption) | exact zAb _ _ | fail); rintro e w3 ⟨rfl, hb3⟩; have hS3 : Below w.heap.size w w3 := (by first | exact zAa hS2 hb3 | exact zAa (zAb _ _) hb3 | exact zAa (by assumption) hb3))
   | (go_at_call 79; refine (HC.out _ ?_).mono ?_; (first | (with_reducible assumption) | exact zAb _ _ | fail); rintro e w4 ⟨rfl, hb4⟩; have hS4 : Below w.heap.size w w4 := (by first | exact zAa hS3 hb4 | exact zAa (by assumption) hb4)))
 go_wp2_with fail
 go_ret
 exact ⟨rfl, by assumption⟩
end Go.Proofs.Ytnfjdoeemnhkbaa
