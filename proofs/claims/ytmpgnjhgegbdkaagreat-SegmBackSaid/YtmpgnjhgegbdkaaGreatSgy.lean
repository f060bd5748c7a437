import Derived.Test.YtmpgnjhgegbdkaaGreatSgt
set_option linter.unusedVariables false
set_option linter.unusedSimpArgs false
set_option maxRecDepth 100000
set_option maxHeartbeats 8000000
open Go.Lib (hid)
namespace Go.Proofs.YtmpgnjhgegbdkaaGreat
open Go.RowKit
open Go.World renaming block_lt_of_cell? -> Qa
open _root_.List renaming length_map -> Qb, getElem?_map -> Qc, getElem?_eq_getElem -> Qf, length -> Qg, mem_of_getElem? -> Qh
open Go.RowKit.Below renaming trans -> Qd, refl -> Qe
theorem zHe (v1 v2 : Value) (ts : List Zt) (w : World) (h1 : RdZ w v1 ts) (h2 : RdZ w v2 ts) (hl : ts.length <= 1000) :
  Calls Tryz.prog 20 #[v1, v2] w fun e w' => e = .returned (.bool true) ∧ Below w.heap.size w w' := by
 obtain ⟨zs1, hz1, hr1, hk1⟩ := h1
 obtain ⟨zs2, hz2, hr2, hk2⟩ := h2
 obtain ⟨a1, c1, rfl⟩ : ∃ ao cap, v1 = .slice ao ts.length cap := by obtain ⟨ao, cap, hv, _⟩ := hr1; exact ⟨ao, cap, by rw [hv, Qb, <- hz1, Qb]⟩
 obtain ⟨a2, c2, rfl⟩ : ∃ ao cap, v2 = .slice ao ts.length cap := by obtain ⟨ao, cap, hv, _⟩ := hr2; exact ⟨ao, cap, by rw [hv, Qb, <- hz2, Qb]⟩
 obtain ⟨n, hn⟩ : ∃ n, n = ts.length := ⟨_, rfl⟩
 rw [<- hn] at hr1 hr2 hl ⊢
 have HN := hid hn
 have HZ1 := hid hz1
 have HZ2 := hid hz2
 have HR1 := hid hr1
 have HR2 := hid hr2
 have HK1 := hid hk1
 have HK2 := hid hk2
 clear hn hz1 hz2 hr1 hr2 hk1 hk2
 go_enter Tryz.func20, Tryz.ntmps20
 go_wp2_with fail
 go_loopw [5] (fun i wr => ∃ k : Nat, k <= n ∧ i = .int .i64 (k : Int) ∧ Below w.heap.size w wr) (fun i _ => n - (intOf i).toNat)
 case atStart => exact ⟨0, Nat.zero_le _, rfl, Qe _ _⟩
 case round =>
  obtain ⟨k, hk, rfl, hb⟩ := hrel
  have HB := hid hb
  clear hb
  by_cases hlt : k < n
  ·have hlti : (k : Int) < (n : Int) := by omega
   have hk0 : (0 : Int) <= (k : Int) := by omega
   obtain ⟨x, hx⟩ : ∃ x, zs1[k]? = some x := ⟨_, Qf (by have := congrArg Qg HZ1.out; rw [Qb] at this; have := HN.out; omega)⟩
   obtain ⟨y, hy⟩ : ∃ y, zs2[k]? = some y := ⟨_, Qf (by have := congrArg Qg HZ2.out; rw [Qb] at this; have := HN.out; omega)⟩
   have hxy : x.t = y.t := by
    have h1 := congrArg (fun l => l[k]?) HZ1.out
    have h2 := congrArg (fun l => l[k]?) HZ2.out
    simp only [Qc] at h1 h2
    rw [hx] at h1
    rw [hy, <- h1] at h2
    simpa using h2.symm
   have hox := HK1.out x (Qh hx)
   have hoy := HK2.out y (Qh hy)
   obtain ⟨b1, o1, rfl, c1⟩ := (HR1.out.kept HB.out).at (k := k) (t := cellsZ x) (by rw [Qc, hx]; rfl)
   obtain ⟨b2, o2, rfl, c2⟩ := (HR2.out.kept HB.out).at (k := k) (t := cellsZ y) (by rw [Qc, hy]; rfl)
   obtain ⟨la, lc, hsl⟩ := zAf hox.1.1
   obtain ⟨ha, hc, hsh⟩ := zAf hox.2.1
   obtain ⟨la2, lc2, hsl2⟩ := zAf hoy.1.1
   obtain ⟨ha2, hc2, hsh2⟩ := zAf hoy.2.1
   have HOX := hid hox
   have HOY := hid hoy
   obtain ⟨zn, ⟨⟨lu, lk, ln, lb⟩, ls⟩, ⟨⟨hu, hk2, hn2, hb⟩, hs⟩⟩ := x
   obtain ⟨zn2, ⟨⟨lu2, lk2, ln2, lb2⟩, ls2⟩, ⟨⟨hu2, hk3, hn3, hb2⟩, hs2⟩⟩ := y
   simp only at hsl hsh hsl2 hsh2
   subst hsl hsh hsl2 hsh2
   unfold Zv.t at hxy
   simp only [Zt.mk.injEq, Vc.mk.injEq] at hxy
   obtain ⟨rfl, ⟨rfl, rfl, rfl, rfl⟩, rfl, rfl, rfl, rfl⟩ := hxy
   obtain ⟨hk, rfl⟩ : ∃ hk, hk = hk2 := ⟨_, rfl⟩
   obtain ⟨hn, rfl⟩ : ∃ hn, hn = hn2 := ⟨_, rfl⟩
   have p0 : wr.cell? ⟨b1, o1 + k * 9, none⟩ = some (.int .i64 zn) := c1 0 _ rfl
   have p1 : wr.cell? ⟨b1, o1 + k * 9 + 1, none⟩ = some (.bool lu) := c1 1 _ rfl
   have p2 : wr.cell? ⟨b1, o1 + k * 9 + 2, none⟩ = some (.int .i64 lk) := c1 2 _ rfl
   have p3 : wr.cell? ⟨b1, o1 + k * 9 + 3, none⟩ = some (.int .i64 ln) := c1 3 _ rfl
   have p4 : wr.cell? ⟨b1, o1 + k * 9 + 4, none⟩ = some (.slice la lb.length lc) := c1 4 _ rfl
   have p5 : wr.cell? ⟨b1, o1 + k * 9 + 5, none⟩ = some (.bool hu) := c1 5 _ rfl
   have p6 : wr.cell? ⟨b1, o1 + k * 9 + 6, none⟩ = some (.int .i64 hk) := c1 6 _ rfl
   have p7 : wr.cell? ⟨b1, o1 + k * 9 + 7, none⟩ = some (.int .i64 hn) := c1 7 _ rfl
   have p8 : wr.cell? ⟨b1, o1 + k * 9 + 8, none⟩ = some (.slice ha hb.length hc) := c1 8 _ rfl
   have q0 : wr.cell? ⟨b2, o2 + k * 9, none⟩ = some (.int .i64 zn) := c2 0 _ rfl
   have q1 : wr.cell? ⟨b2, o2 + k * 9 + 1, none⟩ = some (.bool lu) := c2 1 _ rfl
   have q2 : wr.cell? ⟨b2, o2 + k * 9 + 2, none⟩ = some (.int .i64 lk) := c2 2 _ rfl
   have q3 : wr.cell? ⟨b2, o2 + k * 9 + 3, none⟩ = some (.int .i64 ln) := c2 3 _ rfl
   have q4 : wr.cell? ⟨b2, o2 + k * 9 + 4, none⟩ = some (.slice la2 lb.length lc2) := c2 4 _ rfl
   have q5 : wr.cell? ⟨b2, o2 + k * 9 + 5, none⟩ = some (.bool hu) := c2 5 _ rfl
   have q6 : wr.cell? ⟨b2, o2 + k * 9 + 6, none⟩ = some (.int .i64 hk) := c2 6 _ rfl
   have q7 : wr.cell? ⟨b2, o2 + k * 9 + 7, none⟩ = some (.int .i64 hn) := c2 7 _ rfl
   have q8 : wr.cell? ⟨b2, o2 + k * 9 + 8, none⟩ = some (.slice ha2 hb.length hc2) := c2 8 _ rfl
   have HL := hid (show ∀ w', Below wr.heap.size wr w' -> Calls Tryz.prog 25 #[.agg #[.bool lu, .int .i64 lk, .int .i64 ln, .slice la lb.length lc], .agg #[.bool lu, .int .i64 lk, .int .i64 ln, .slice la2 lb.length lc2]] w' fun e w'' => e = .returned (.bool true) ∧ Below wr.heap.size wr w'' from fun w' h => by
    have hw := zAa HB.out h
    have hh := zEw (⟨lu, lk, ln, lb⟩, .slice la lb.length lc) (⟨lu, lk, ln, lb⟩, .slice la2 lb.length lc2) w' (HOX.out.1.kept hw) (HOY.out.1.kept hw)
    rw [show sameT (⟨lu, lk, ln, lb⟩ : Vc) ⟨lu, lk, ln, lb⟩ = true by simp [sameT]] at hh
    exact hh.mono fun e w'' h2 => ⟨h2.1, zAa h h2.2⟩)
   have HH := hid (show ∀ w', Below wr.heap.size wr w' -> Calls Tryz.prog 25 #[.agg #[.bool hu, .int .i64 hk, .int .i64 hn, .slice ha hb.length hc], .agg #[.bool hu, .int .i64 hk, .int .i64 hn, .slice ha2 hb.length hc2]] w' fun e w'' => e = .returned (.bool true) ∧ Below wr.heap.size wr w'' from fun w' h => by
    have hw := zAa HB.out h
    have hh := zEw (⟨hu, hk, hn, hb⟩, .slice ha hb.length hc) (⟨hu, hk, hn, hb⟩, .slice ha2 hb.length hc2) w' (HOX.out.2.kept hw) (HOY.out.2.kept hw)
    rw [show sameT (⟨hu, hk, hn, hb⟩ : Vc) ⟨hu, hk, hn, hb⟩ = true by simp [sameT]] at hh
    exact hh.mono fun e w'' h2 => ⟨h2.1, zAa h h2.2⟩)
   have HKP := hid (show ∀ w', Below wr.heap.size wr w' -> w'.cell? ⟨b1, o1 + k * 9, none⟩ = some (.int .i64 zn) ∧ w'.cell? ⟨b1, o1 + k * 9 + 1, none⟩ = some (.bool lu) ∧ w'.cell? ⟨b1, o1 + k * 9 + 2, none⟩ = some (.int .i64 lk) ∧ w'.cell? ⟨b1, o1 + k * 9 + 3, none⟩ = some (.int .i64 ln) ∧ w'.cell? ⟨b1, o1 + k * 9 + 4, none⟩ = some (.slice la lb.length lc) ∧ w'.cell? ⟨b1, o1 + k * 9 + 5, none⟩ = some (.bool hu) ∧ w'.cell? ⟨b1, o1 + k * 9 + 6, none⟩ = some (.int .i64 hk) ∧ w'.cell? ⟨b1, o1 + k * 9 + 7, none⟩ = some (.int .i64 hn) ∧ w'.cell? ⟨b1, o1 + k * 9 + 8, none⟩ = some (.slice ha hb.length hc) ∧ w'.cell? ⟨b2, o2 + k * 9, none⟩ = some (.int .i64 zn) ∧ w'.cell? ⟨b2, o2 + k * 9 + 1, none⟩ = some (.bool lu) ∧ w'.cell? ⟨b2, o2 + k * 9 + 2, none⟩ = some (.int .i64 lk) ∧ w'.cell? ⟨b2, o2 + k * 9 + 3, none⟩ = some (.int .i64 ln) ∧ w'.cell? ⟨b2, o2 + k * 9 + 4, none⟩ = some (.slice la2 lb.length lc2) ∧ w'.cell? ⟨b2, o2 + k * 9 + 5, none⟩ = some (.bool hu) ∧ w'.cell? ⟨b2, o2 + k * 9 + 6, none⟩ = some (.int .i64 hk) ∧ w'.cell? ⟨b2, o2 + k * 9 + 7, none⟩ = some (.int .i64 hn) ∧ w'.cell? ⟨b2, o2 + k * 9 + 8, none⟩ = some (.slice ha2 hb.length hc2) ∧ Below wr.heap.size wr w' from fun w' h => ⟨(h.cell (Qa _ _ p0)).trans p0, (h.cell (Qa _ _ p1)).trans p1, (h.cell (Qa _ _ p2)).trans p2, (h.cell (Qa _ _ p3)).trans p3, (h.cell (Qa _ _ p4)).trans p4, (h.cell (Qa _ _ p5)).trans p5, (h.cell (Qa _ _ p6)).trans p6, (h.cell (Qa _ _ p7)).trans p7, (h.cell (Qa _ _ p8)).trans p8, (h.cell (Qa _ _ q0)).trans q0, (h.cell (Qa _ _ q1)).trans q1, (h.cell (Qa _ _ q2)).trans q2, (h.cell (Qa _ _ q3)).trans q3, (h.cell (Qa _ _ q4)).trans q4, (h.cell (Qa _ _ q5)).trans q5, (h.cell (Qa _ _ q6)).trans q6, (h.cell (Qa _ _ q7)).trans q7, (h.cell (Qa _ _ q8)).trans q8, h⟩)
   have hS0 := Qe wr.heap.size wr
   clear hx hy hox hoy c1 c2
   go_upto_region 6 with (fail)
   go_cut [55] (fun s wx => s = .bool false ∧ Below wr.heap.size wr wx)
   case first =>
    set_option maxRecDepth 1000000 in
    go_region_held3 (fun w' => w'.cell? ⟨b1, o1 + k * 9, none⟩ = some (.int .i64 zn) ∧ w'.cell? ⟨b1, o1 + k * 9 + 1, none⟩ = some (.bool lu) ∧ w'.cell? ⟨b1, o1 + k * 9 + 2, none⟩ = some (.int .i64 lk) ∧ w'.cell? ⟨b1, o1 + k * 9 + 3, none⟩ = some (.int .i64 ln) ∧ w'.cell? ⟨b1, o1 + k * 9 + 4, none⟩ = some (.slice la lb.length lc) ∧ w'.cell? ⟨b1, o1 + k * 9 + 5, none⟩ = some (.bool hu) ∧ w'.cell? ⟨b1, o1 + k * 9 + 6, none⟩ = some (.int .i64 hk) ∧ w'.cell? ⟨b1, o1 + k * 9 + 7, none⟩ = some (.int .i64 hn) ∧ w'.cell? ⟨b1, o1 + k * 9 + 8, none⟩ = some (.slice ha hb.length hc) ∧ w'.cell? ⟨b2, o2 + k * 9, none⟩ = some (.int .i64 zn) ∧ w'.cell? ⟨b2, o2 + k * 9 + 1, none⟩ = some (.bool lu) ∧ w'.cell? ⟨b2, o2 + k * 9 + 2, none⟩ = some (.int .i64 lk) ∧ w'.cell? ⟨b2, o2 + k * 9 + 3, none⟩ = some (.int .i64 ln) ∧ w'.cell? ⟨b2, o2 + k * 9 + 4, none⟩ = some (.slice la2 lb.length lc2) ∧ w'.cell? ⟨b2, o2 + k * 9 + 5, none⟩ = some (.bool hu) ∧ w'.cell? ⟨b2, o2 + k * 9 + 6, none⟩ = some (.int .i64 hk) ∧ w'.cell? ⟨b2, o2 + k * 9 + 7, none⟩ = some (.int .i64 hn) ∧ w'.cell? ⟨b2, o2 + k * 9 + 8, none⟩ = some (.slice ha2 hb.length hc2) ∧ Below wr.heap.size wr w') (first | assumption | exact HKP.out _ (by first | assumption | exact Qd (by assumption) (zAe _ _)))
     (first
      | (have hq := hS7; go_at_call 25; refine (HH.out _ (by first | assumption | exact Qd (by assumption) (zAe _ _))).mono ?_; rintro e w8 ⟨rfl, hS8⟩)
      | (go_at_call 25; refine (HL.out _ (by first | assumption | exact Qd (by assumption) (zAe _ _))).mono ?_; rintro e w7 ⟨rfl, hS7⟩))
    all_goals
     go_wp2_with fail
     go_meet
     exact ⟨rfl, by first | exact hS8 | exact zAo hS8⟩
   case rest =>
    obtain ⟨rfl, hb9⟩ := hcut
    have HB9 := hid (zAa HB.out hb9)
    clear hb9 hS0
    go_wp2_with fail
    go_roundw
    case rel => exact ⟨k + 1, by omega, by go_num, HB9.out⟩
    case measure => simp [intOf]; omega
  ·have hkn : k = n := by omega
   have hlti : ¬ (k : Int) < (n : Int) := by omega
   go_wp2_with fail
   go_ret
   exact ⟨rfl, HB.out⟩
end Go.Proofs.YtmpgnjhgegbdkaaGreat
