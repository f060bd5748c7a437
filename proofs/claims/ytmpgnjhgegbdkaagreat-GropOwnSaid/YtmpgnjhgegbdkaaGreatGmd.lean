import Derived.Test.YtmpgnjhgegbdkaaGreatGmb
set_option linter.unusedVariables false
set_option linter.unusedSimpArgs false
set_option maxRecDepth 100000
set_option maxHeartbeats 8000000
open Go.Lib (hid)
namespace Go.Proofs.YtmpgnjhgegbdkaaGreat
open Go.RowKit
open _root_.List renaming filter_cons -> Qa, mem_cons -> Qb
open Go.IntWalk renaming i64_in -> Qc
def lowT (l : List Int) (x : Int) : Nat := (l.filter fun a => decide (a < x)).length
theorem zJ5 (x : Int) : ∀ (l : List Int), (∀ a ∈ l, ¬ a < x) -> lowT l x = 0
 | [], _ => rfl
 | a :: r, h => by
  have h1 : decide (a < x) = false := decide_eq_false (h a (List.mem_cons_self ..))
  have ih := zJ5 x r fun b hb => h b (List.mem_cons_of_mem _ hb)
  unfold lowT at ih ⊢
  rw [Qa, h1]
  exact ih
theorem zL0 (x : Int) : ∀ (l : List Int) (i : Nat) (a : Int), l.Pairwise (· < ·) -> l[i]? = some a -> (a < x ↔ i < lowT l x)
 | [], i, a, _, h => by simp at h
 | b :: r, i, a, hp, h => by
  obtain ⟨h1, h2⟩ := List.pairwise_cons.1 hp
  by_cases hb : b < x
  ·have hl : lowT (b :: r) x = lowT r x + 1 := by
    unfold lowT
    rw [Qa, if_pos (decide_eq_true hb)]
    rfl
   cases i with
   | zero =>
    have hab : b = a := by simpa using h
    rw [hl, <- hab]
    exact ⟨fun _ => by omega, fun _ => hb⟩
   | succ i =>
    have h3 := zL0 x r i a h2 (by simpa using h)
    rw [hl, h3]
    omega
  ·have hl : lowT (b :: r) x = 0 := zJ5 x _ fun c hc => by
    rcases Qb.1 hc with rfl | hc
    ·exact hb
    ·have := h1 c hc
     omega
   rw [hl]
   refine ⟨fun ha => ?_, fun h => by omega⟩
   rcases Qb.1 (List.mem_of_getElem? h) with rfl | hc
   ·exact absurd ha hb
   ·have := h1 a hc
    omega
theorem zSq (l : List Int) (x : Int) : lowT l x <= l.length := List.length_filter_le _ _
theorem zRq (a : Int) (w : World) : Calls Tryz.prog 92 #[.int .i64 a] w fun e w' => e = .returned (.bool false) ∧ w' = w := by
 go_enter Tryz.func92, Tryz.ntmps92
 go_wp2_with fail
 go_ret
 exact ⟨by simp, rfl⟩
theorem zRr (a : Int) (w : World) : Calls Tryz.prog 118 #[.int .i64 a] w fun e w' => e = .returned (.bool false) ∧ w' = w := by
 go_enter Tryz.func118, Tryz.ntmps118
 go_wp2_with fail
 go_ret
 exact ⟨by simp, rfl⟩
theorem zQb (a b : Int) (w : World) : Calls Tryz.prog 91 #[.int .i64 a, .int .i64 b] w fun e w' => e = .returned (.bool (decide (a < b))) ∧ w' = w := by
 have HC := hid (zRr a w)
 go_enter Tryz.func91, Tryz.ntmps91
 go_wp2_with fail
 refine HC.out.mono ?_
 rintro e w' ⟨rfl, rfl⟩
 go_wp2_with fail
 go_ret
 exact ⟨rfl, rfl⟩
theorem zMw (ws : List Int) (x : Int) (v : Value) (w : World) (hl : ws.length <= 100000) (hs : ws.Pairwise (· < ·)) (hr : Rd w v (ws.map (.int .i64))) :
  Calls Tryz.prog 66 #[v, .int .i64 x] w fun e w' => e = .returned (.tuple #[.int .i64 (lowT ws x : Nat), .bool (decide (ws[lowT ws x]? = some x))]) ∧ w' = w := by
 obtain ⟨va, vc, rfl⟩ := zAh hr
 obtain ⟨n, hn⟩ : ∃ n, n = ws.length := ⟨_, rfl⟩
 rw [List.length_map, <- hn] at hr ⊢
 rw [<- hn] at hl
 have HN := hid hn
 have HR := hid hr
 have hpn : lowT ws x <= n := by rw [hn]; exact zSq ws x
 have HUP := hid (fun (i : Nat) (a : Int) (h : ws[i]? = some a) => zL0 x ws i a hs h)
 obtain ⟨p, hp⟩ : ∃ p, p = lowT ws x := ⟨_, rfl⟩
 rw [<- hp] at hpn ⊢
 rw [<- hp] at HUP
 clear hn hr hs hp
 go_enter Tryz.func66, Tryz.ntmps66
 go_wp2_with fail
 go_loopw [7, 8] (fun a c wr => ∃ i j : Nat, i <= p ∧ p <= j ∧ j <= n ∧ a = .int .i64 (i : Int) ∧ c = .int .i64 (j : Int) ∧ wr = w) (fun a c _ => (intOf c).toNat - (intOf a).toNat)
 case atStart => exact ⟨0, n, Nat.zero_le _, hpn, Nat.le_refl _, rfl, rfl, rfl⟩
 case round =>
  obtain ⟨i, j, hip, hpj, hjn, rfl, rfl, rfl⟩ := hrel
  by_cases hlt : i < j
  ·have hcl := (zAu HR.out).2
   obtain ⟨b, off, rfl, hcell⟩ := hcl (by omega)
   obtain ⟨H, hH⟩ : ∃ H, H = (i + j) / 2 := ⟨_, rfl⟩
   have h1 : i <= H ∧ H < j := by omega
   obtain ⟨hiH, hHj⟩ := h1
   have hHn : H < n := by omega
   have hHni : (H : Int) < (n : Int) := by omega
   have hH0 : (0 : Int) <= (H : Int) := by omega
   have e1 : IntKind.i64.wrap ((i : Int) + (j : Int)) = (i : Int) + (j : Int) := Qc _ (by omega)
   have e2 : IntKind.u64.wrap ((i : Int) + (j : Int)) = (i : Int) + (j : Int) := IntWalk.u64_in _ (by omega)
   have e3 : ((i : Int) + (j : Int)) / 2 = (H : Int) := by rw [hH]; omega
   have e4 : IntKind.i64.wrap (H : Int) = (H : Int) := Qc _ (by omega)
   have hx1 := hcell H hHn
   have hz1 := getD_at (l := ws) (q := H) (by rw [<- HN.out]; exact hHn)
   obtain ⟨z, hz⟩ : ∃ z, z = ws.getD H 0 := ⟨_, rfl⟩
   rw [<- hz] at hx1 hz1
   have HI := hid (HUP.out H z hz1)
   have HCZ := hid (zQb z x wr)
   clear hz hz1 hcell hcl hH
   have hij2 : (i : Int) < (j : Int) := by omega
   by_cases hc : z < x
   ·have hHp : H < p := HI.out.1 hc
    have HD := hid (decide_eq_true hc)
    clear hc
    go_wp2_with fail
    refine HCZ.out.mono ?_
    rintro e w2 ⟨rfl, rfl⟩
    rw [HD.out]
    go_wp2_with fail
    go_roundw
    case rel => exact ⟨H + 1, j, by omega, hpj, hjn, by go_num, rfl, trivial⟩
    case measure => simp [intOf]; omega
   ·have hHp : p <= H := by
     rcases Nat.lt_or_ge H p with h | h
     ·exact absurd (HI.out.2 h) hc
     ·exact h
    have HD := hid (decide_eq_false hc)
    clear hc
    go_wp2_with fail
    refine HCZ.out.mono ?_
    rintro e w2 ⟨rfl, rfl⟩
    rw [HD.out]
    go_wp2_with fail
    go_roundw
    case rel => exact ⟨i, H, hip, hHp, by omega, rfl, rfl, trivial⟩
    case measure => simp [intOf]; omega
  ·have hij2 : i = p := by omega
   have hij3 : j = p := by omega
   subst hij3
   subst hij2
   have hijn : ¬ (i : Int) < (i : Int) := by omega
   have hi0 : (0 : Int) <= (i : Int) := by omega
   by_cases hin : i < n
   ·have hini : (i : Int) < (n : Int) := by omega
    have hcl := (zAu HR.out).2
    obtain ⟨b, off, rfl, hcell⟩ := hcl (by omega)
    have hx1 := hcell i hin
    have hz1 := getD_at (l := ws) (q := i) (by rw [<- HN.out]; exact hin)
    obtain ⟨z, hz⟩ : ∃ z, z = ws.getD i 0 := ⟨_, rfl⟩
    rw [<- hz] at hx1 hz1
    have HZ := hid hz1
    have HCZ := hid (zRq z wr)
    clear hz hz1 hcell hcl
    cases hzx : (z == x)
    ·have HA := hid (show decide (ws[i]? = some x) = false from by
      rw [HZ.out]
      exact decide_eq_false fun h => by rw [Option.some.inj h] at hzx; simp at hzx)
     go_wp2_with fail
     refine HCZ.out.mono ?_
     rintro e w2 ⟨rfl, rfl⟩
     go_wp2_with fail
     go_ret2
     exact ⟨by rw [HA.out]; rfl, rfl⟩
    ·have HA := hid (show decide (ws[i]? = some x) = true from by
      rw [HZ.out]
      exact decide_eq_true (congrArg some (by simpa using hzx)))
     go_wp2_with fail
     go_ret2
     exact ⟨by rw [HA.out]; rfl, rfl⟩
   ·have hini : ¬ (i : Int) < (n : Int) := by omega
    have HA := hid (show decide (ws[i]? = some x) = false from by
     rw [List.getElem?_eq_none (by rw [<- HN.out]; omega)]
     rfl)
    go_wp2_with fail
    go_ret2
    exact ⟨by rw [HA.out]; rfl, rfl⟩
def findT (ids : List Int) (x : Int) : Int := if ids[lowT ids x]? = some x then (lowT ids x : Nat) else -1
theorem zJ6 {K G : Nat} {cols : List Co} {rows : List (List Vc)} {ids : List Int} {sps : List (Int × Int × Int × Int)} (hl : ids.length <= 1000) (hs : ids.Pairwise (· < ·)) (x : Int) (w : World) (h : GrpAt K w G cols rows ids sps) :
  Calls Tryz.prog 39 #[.pointer (some ⟨G, 0, none⟩), .int .i64 x] w fun e w' => e = .returned (.int .i64 (findT ids x)) ∧ w' = w := by
 obtain ⟨h0, K2, sg, n, ic, tc, ia, ta, h1, h2, h2b, h3, h4, h5, h6, h7⟩ := h
 have HC := hid (zMw ids x (.slice ia n ic) w (by omega) hs (Rd.of_owns h5))
 have c1 : w.cell? ⟨G, 1, none⟩ = some (.slice ia n ic) := by rw [cell_of_row w G 1 _ _ _ h3]; rfl
 clear h0 h1 h2 h2b h3 h4 h5 h6 h7
 obtain ⟨r, hr⟩ : ∃ r, r = decide (ids[lowT ids x]? = some x) := ⟨_, rfl⟩
 rw [<- hr] at HC
 have HF := hid (show findT ids x = if r = true then ((lowT ids x : Nat) : Int) else -1 from by
  unfold findT
  rw [hr]
  simp only [decide_eq_true_eq])
 clear hr
 go_enter Tryz.func39, Tryz.ntmps39
 go_wp2_with fail
 refine HC.out.mono ?_
 rintro e w' ⟨rfl, rfl⟩
 clear c1
 cases r with
 | true =>
  go_wp2_with fail
  go_ret
  exact ⟨by rw [HF.out]; rfl, rfl⟩
 | false =>
  go_wp2_with fail
  go_ret
  exact ⟨by rw [HF.out]; rfl, rfl⟩
end Go.Proofs.YtmpgnjhgegbdkaaGreat
