/-
  Contracts of slices.Clone at rows, of the order of parts.
-/
import Derived.Test.YtnfjdoeemnhkbaaAgi
import Derived.Test.YtnfjdoeemnhkbaaFrAp
namespace Go.Proofs.Ytnfjdoeemnhkbaa
set_option linter.unusedVariables false
set_option linter.unusedSimpArgs false
open Go.RowKit Sy

theorem elmRowsA : Elm Try.prog 27 33 1 24 := by
  have h : (Try.prog.info? 33).map (fun i => (i.zero, i.size, i.bytes)) = some (some (.slice none 0 0), 1, 24) := by kernel_rfl
  cases hq : Try.prog.info? 33 with
  | none => rw [hq] at h; cases h
  | some i =>
    rw [hq] at h
    simp only [Option.map_some, Option.some.injEq, Prod.mk.injEq] at h
    exact ⟨Try.underlying27, ⟨i, _, hq, h.1, h.2.1, h.2.2, rfl⟩, by decide, by decide⟩
set_option maxRecDepth 100000 in
set_option maxHeartbeats 8000000 in
theorem rclone_any (E : List El) (lv : Value) (w : World) (hl : E.length ≤ 1000000) (hr : Rd w lv (E.map Prod.fst)) (hs : ∀ x ∈ E, ∃ a m c, x.1 = .slice a m c) :
    Calls Try.prog 80 #[lv] w fun e w' => ∃ v, e = .returned v ∧ w'.ownsRow w.heap.size 33 1 v E.length (E.map Prod.fst) ∧ Below w.heap.size w w' := by
  obtain ⟨ao, cap, hvs⟩ : ∃ ao cap, lv = .slice ao (E.map Prod.fst).length cap := by obtain ⟨ao, cap, h, _⟩ := hr; exact ⟨ao, cap, h⟩
  subst hvs
  rw [List.length_map] at hr ⊢
  have HR := Lib.hid hr
  rcases ao with _ | ⟨b, off, p⟩
  · obtain ⟨ao', cap', hv, hn, _⟩ := hr
    simp only [Value.slice.injEq, List.length_map] at hv hn
    have hcap := hn.1 hv.1.symm
    have hl0 : E = [] := List.length_eq_zero_iff.1 (by omega)
    have hc0 : cap = 0 := by omega
    clear hv hn hcap HR
    subst hl0
    subst hc0
    have heq := fun (w' : World) => Lib.run_eql_slice_nil (P := Try.prog) w' 27 33 none 0 0 0 0 Try.underlying27
    go_enter Try.func80, Try.ntmps80
    go_wp2_with fail
    go_ret
    exact ⟨_, rfl, ⟨rfl, .inl ⟨rfl, rfl⟩⟩, Below.refl _ _⟩
  · obtain ⟨n, hn⟩ : ∃ n, n = E.length := ⟨_, rfl⟩
    rw [← hn] at HR ⊢
    have HN := Lib.hid hn
    rw [← hn] at hl
    clear hr hn
    have heq := fun (w' : World) => Lib.run_eql_slice_nil (P := Try.prog) w' 27 33 (some ⟨b, off, p⟩) n cap 0 0 Try.underlying27
    have HRS := Lib.hid fun (w' : World) (h : Below w.heap.size w w') => rdS_flat (HR.out.kept h)
    have HONE := Lib.hid (ones_flat (xs := E.map Prod.fst) (fun u hu => by obtain ⟨x, hx, rfl⟩ := List.mem_map.1 hu; obtain ⟨a, m, c, h⟩ := hs x hx; rw [h]; rfl))
    clear hs
    go_enter Try.func80, Try.ntmps80
    have HOE := Lib.hid (show (w.alloc (.cells #[] 33)).ownsRow w.heap.size 33 1 (.slice (some ⟨w.heap.size, 0, none⟩) 0 0) 0 [] from World.ownsRow_lit w #[] 0 (Nat.le_refl _) (by unfold maxLen; omega) rfl)
    have HRA := Lib.hid (HRS.out _ (below_alloc w (.cells #[] 33)))
    have hszB : w.heap.size ≤ (w.alloc (.cells #[] 33)).heap.size := by simp
    have hLn := show 0 + ((E.map Prod.fst).map fun u => [u]).length ≤ 10000000 by rw [List.length_map, List.length_map, ← HN.out]; omega
    have hLn2 := show 0 + ((E.map Prod.fst).map fun u => [u]).length = n by rw [List.length_map, List.length_map, ← HN.out]; omega
    have HL1 := Lib.hid hLn
    have HL2 := Lib.hid hLn2
    clear hLn hLn2
    go_wp2_with (at_builtin; go_must (refine wpList_append_k elmRowsA rfl _ _ rfl w.heap.size _ _ _ rfl HOE.out _ _ rfl HRA.out HONE.out HL1.out hszB n HL2.out ?_); intro ao4 cap4 w4 hown4 hgrow4 hnew4; have HO4 := Lib.hid hown4; have HG4 := Lib.hid hgrow4; clear hown4 hgrow4 hnew4)
    go_ret
    refine ⟨_, rfl, ?_, ?_⟩
    · have h := HO4.out
      rw [List.nil_append, flat_ones] at h
      exact h
    · exact (below_alloc w _).grown HG4.out (by simp) (own_base HOE.out)

set_option maxRecDepth 100000 in
set_option maxHeartbeats 8000000 in
theorem parts1_any (x y : El) (X : Nat) (g : Int) (fz : Nat × Nat) (w : World) (hX : w.heap[X]? = some (.cells #[.int .i64 g] 3 fz)) (hx : RdP w x.1 x.2) (hy : RdP w y.1 y.2) (hlx : x.2.length ≤ 1000000) (hly : y.2.length ≤ 1000000) :
    Calls Try.prog 78 #[x.1, y.1, .pointer (some ⟨X, 0, none⟩)] w fun e w' => e = .returned (.int .i64 (cmpT (atP x.2 g).1 (atP y.2 g).1)) ∧ Below w.heap.size w w' := by
  have HA := Lib.hid (fun w' (h : Below w.heap.size w w') => at_any x.2 x.1 g w' (hx.kept h) hlx)
  have HB := Lib.hid (fun w' (h : Below w.heap.size w w') => at_any y.2 y.1 g w' (hy.kept h) hly)
  have HC := Lib.hid (fun w' (h : Below w.heap.size w w') => compare_any (atP x.2 g) (atP y.2 g) w' ((atP_ok hx g).kept h) ((atP_ok hy g).kept h))
  have hox := (atP_ok hx g).1
  have hoy := (atP_ok hy g).1
  obtain ⟨xa, xc, hxs⟩ := rdS_shape hx.1
  obtain ⟨ya, yc, hys⟩ := rdS_shape hy.1
  rw [List.length_map] at hxs hys
  obtain ⟨xn, hxn⟩ : ∃ xn, xn = x.2.length := ⟨_, rfl⟩
  obtain ⟨yn, hyn⟩ : ∃ yn, yn = y.2.length := ⟨_, rfl⟩
  rw [← hxn] at hxs
  rw [← hyn] at hys
  rw [hxs] at HA ⊢
  rw [hys] at HB ⊢
  obtain ⟨p, hp⟩ : ∃ p, p = atP x.2 g := ⟨_, rfl⟩
  obtain ⟨q, hq⟩ : ∃ q, q = atP y.2 g := ⟨_, rfl⟩
  rw [← hp] at HA HC hox ⊢
  rw [← hq] at HB HC hoy ⊢
  obtain ⟨pa, pc, hps⟩ := rd_shape8 hox
  obtain ⟨qa, qc, hqs⟩ := rd_shape8 hoy
  obtain ⟨⟨pu, pk, pn, pb⟩, pv⟩ := p
  obtain ⟨⟨qu, qk, qn, qb⟩, qv⟩ := q
  simp only at hps hqs
  subst hps hqs
  obtain ⟨R, hR⟩ : ∃ R, R = cmpT ⟨pu, pk, pn, pb⟩ ⟨qu, qk, qn, qb⟩ := ⟨_, rfl⟩
  simp only at HC ⊢
  rw [← hR] at HC ⊢
  obtain ⟨pm, hpm⟩ : ∃ pm, pm = pb.length := ⟨_, rfl⟩
  obtain ⟨qm, hqm⟩ : ∃ qm, qm = qb.length := ⟨_, rfl⟩
  unfold aggV at HA HB HC
  simp only at HA HB HC
  rw [← hpm] at HA HC
  rw [← hqm] at HB HC
  have cX : w.cell? ⟨X, 0, none⟩ = some (.int .i64 g) := by rw [cell_of_row w X 0 _ _ _ hX]; rfl
  have HCX := Lib.hid (fun w' (h : Below w.heap.size w w') => show w'.cell? ⟨X, 0, none⟩ = some (.int .i64 g) ∧ Below w.heap.size w w' from ⟨(h.cell (World.block_lt_of_cell? _ _ cX)).trans cX, h⟩)
  clear hxs hys hxn hyn hp hq hpm hqm hR hox hoy hx hy hX hlx hly
  go_enter Try.func78, Try.ntmps78
  go_upto_region 1 with (fail)
  have hS := Below.refl w.heap.size w
  set_option maxRecDepth 1000000 in
  go_region_held3 (fun w' => w'.cell? ⟨X, 0, none⟩ = some (.int .i64 g) ∧ Below w.heap.size w w') (first | assumption | exact HCX.out _ (by assumption) | exact ⟨cX, below_drw _ _⟩)
    (first
      | (go_at_call_of 45 (Value.slice xa xn xc); refine (HA.out _ ?_).mono ?_; (first | (with_reducible assumption) | exact below_drw _ _ | fail); rintro e w2 ⟨rfl, hb⟩; have hS2 : Below w.heap.size w w2 := (by first | exact below_then (below_drw _ _) hb | exact below_then (by assumption) hb))
      | (go_at_call_of 45 (Value.slice ya yn yc); refine (HB.out _ ?_).mono ?_; (first | (with_reducible assumption) | exact below_drw _ _ | fail); rintro e w3 ⟨rfl, hb3⟩; have hS3 : Below w.heap.size w w3 := (by first | exact below_then hS2 hb3 | exact below_then (below_drw _ _) hb3 | exact below_then (by assumption) hb3))
      | (go_at_call 79; refine (HC.out _ ?_).mono ?_; (first | (with_reducible assumption) | exact below_drw _ _ | fail); rintro e w4 ⟨rfl, hb4⟩; have hS4 : Below w.heap.size w w4 := (by first | exact below_then hS3 hb4 | exact below_then (by assumption) hb4)))

  go_wp2_with fail
  go_ret
  exact ⟨rfl, by assumption⟩

end Go.Proofs.Ytnfjdoeemnhkbaa
