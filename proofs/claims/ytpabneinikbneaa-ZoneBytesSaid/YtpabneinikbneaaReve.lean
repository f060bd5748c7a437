/-
  Contract of the reference's Eval, for predicates that may be.
-/
import Derived.Test.YtpabneinikbneaaRefk
import Derived.Test.YtpabneinikbneaaLseven
namespace Go.Proofs.Ytpabneinikbneaa
set_option linter.unusedVariables false
set_option linter.unusedSimpArgs false
open Go.RowKit

set_option maxRecDepth 100000 in
theorem refHolds_any (o d : Int) (h1 : 1 ≤ o) (h2 : o ≤ 6) (w : World) : Calls Try.prog 66 #[.int .i64 o, .int .i64 d] w fun e w' => e = .returned (.bool (holdsB o d)) ∧ w = w' := by
  rcases (by omega : o = 1 ∨ o = 2 ∨ o = 3 ∨ o = 4 ∨ o = 5 ∨ o = 6) with rfl | rfl | rfl | rfl | rfl | rfl
  all_goals
    clear h1 h2
    go_enter Try.func66, Try.ntmps66
    go_wp2_with fail
    go_ret
    exact ⟨rfl, rfl⟩
theorem truth_any (b : Bool) (w : World) : Calls Try.prog 65 #[.bool b] w fun e w' => e = .returned (.int .i64 (verdB b)) ∧ w = w' := by
  cases b
  all_goals
    go_enter Try.func65, Try.ntmps65
    go_wp2_with fail
    go_ret
    exact ⟨rfl, rfl⟩

mutual
/-- A predicate of which the reference may be asked, of that row. -/
def okE (r : List Vc) : Pt → Prop
  | .mk k c o v l => (k = 1) ∨ (k = 2 ∧ 0 ≤ c ∧ c < r.length ∧ 1 ≤ o ∧ o ≤ 6 ∧ ∀ x, r[c.toNat]? = some x → x.u = false → refC x v = cmpT x v) ∨ (k = 3 ∧ 0 ≤ c ∧ c < r.length) ∨ ((k = 4 ∨ k = 5) ∧ okEs r l) ∨ (k = 6 ∧ l.length = 1 ∧ okEs r l)
def okEs (r : List Vc) : List Pt → Prop
  | [] => True
  | q :: t => okE r q ∧ okEs r t
end
theorem okEs_mem {r : List Vc} : ∀ {l : List Pt}, okEs r l → ∀ {i : Nat} {q : Pt}, l[i]? = some q → okE r q
  | [], _, i, q, h => by simp at h
  | p :: t, h, 0, q, hq => by
    unfold okEs at h
    simp only [List.getElem?_cons_zero, Option.some.injEq] at hq
    exact hq ▸ h.1
  | p :: t, h, i + 1, q, hq => by
    unfold okEs at h
    exact okEs_mem h.2 (by simpa using hq)
theorem okEs_of {r : List Vc} : ∀ {l : List Pt}, (∀ q ∈ l, okE r q) → okEs r l
  | [], _ => by unfold okEs; trivial
  | p :: t, h => by unfold okEs; exact ⟨h p List.mem_cons_self, okEs_of fun q hq => h q (List.mem_cons_of_mem _ hq)⟩

def outE (W : Int) (vs : List Int) : Int := if 3 ∈ vs then 3 else W

def EvOK (r : List Vc) (p : Pt) : Prop := ∀ (cs : List Value) (rv : Value) (w : World), RdT1 w p cs → RdRow w rv r →
  Calls Try.prog 29 #[.agg cs.toArray, rv] w fun e w' => e = .returned (.int .i64 (evalT r p)) ∧ Below w.heap.size w w'

theorem evalT_range (r : List Vc) (p : Pt) : evalT r p = 1 ∨ evalT r p = 2 ∨ evalT r p = 3 := by
  have hl : ∀ (s v : Int) (l : List Int), (s = 1 ∨ s = 2 ∨ s = 3) → (v = 1 ∨ v = 2 ∨ v = 3) → listE s v l = 1 ∨ listE s v l = 2 ∨ listE s v l = 3 := fun s v l hs hv => by
    unfold listE
    split
    · exact hs
    · split
      · exact .inr (.inr rfl)
      · exact hv
  have hv : ∀ b, verdB b = 1 ∨ verdB b = 2 ∨ verdB b = 3 := fun b => by cases b <;> simp [verdB]
  have hev : ∀ (d : Nat) (q : Pt), depT q ≤ d → evalT r q = 1 ∨ evalT r q = 2 ∨ evalT r q = 3 := by
    intro d
    induction d with
    | zero => intro q hq; obtain ⟨k, c, o, v, l⟩ := q; unfold depT at hq; omega
    | succ d ih =>
      intro q hq
      obtain ⟨k, c, o, v, l⟩ := q
      unfold depT at hq
      unfold evalT
      split
      · exact .inl rfl
      · split
        · unfold cmpE
          split
          · exact .inr (.inr rfl)
          · split
            · exact .inr (.inr rfl)
            · exact hv _
        · split
          · unfold nullE
            split
            · exact .inr (.inr rfl)
            · exact hv _
          · split
            · exact hl _ _ _ (.inr (.inl rfl)) (.inl rfl)
            · split
              · exact hl _ _ _ (.inl rfl) (.inr (.inl rfl))
              · split
                · rw [evalL_eq]
                  match l with
                  | [] => exact .inr (.inr rfl)
                  | [q] =>
                    have := ih q (by have := depL_mem (l := [q]) (k := 0) (q := q) rfl; omega)
                    rcases this with h | h | h <;> simp [h, otherT]
                  | q :: q2 :: t => exact .inr (.inr rfl)
                · exact .inr (.inr rfl)
  exact hev _ p (Nat.le_refl _)
theorem colT_in {r : List Vc} {c : Int} (h0 : 0 ≤ c) (h1 : c < r.length) : ∃ n : Nat, ∃ x, c = (n : Int) ∧ n < r.length ∧ r[n]? = some x ∧ colT r c = some x := by
  rcases colT_cases r c with ⟨h, _⟩ | ⟨_, h, _⟩ | h
  · omega
  · omega
  · exact h

set_option maxRecDepth 100000 in
set_option maxHeartbeats 8000000 in
theorem ev_step (r : List Vc) (hrl : r.length ≤ 1000000) (k c o : Int) (v : Vc) (l : List Pt) (hl6 : l.length ≤ 10000000) (hok : okE r (.mk k c o v l)) (ih : ∀ (i : Nat) (q : Pt), l[i]? = some q → okE r q → EvOK r q) : EvOK r (.mk k c o v l) := by
  intro cs rv w hrd hr
  have HIH := Lib.hid ih
  clear ih
  unfold RdT1 at hrd
  obtain ⟨s, ls, css, rfl, hov, hls, hts⟩ := hrd
  obtain ⟨sa, sc, hes⟩ := rd_shape8 hov.1
  obtain ⟨ea, ec, hel⟩ := rdS_shape hls
  simp only at hes
  subst hes hel
  have hcl := rdTs_len hts
  obtain ⟨m, hM⟩ : ∃ m, m = l.length := ⟨_, rfl⟩
  rw [hcl, ← hM] at hls ⊢
  rw [← hM] at hl6
  have HM := Lib.hid hM
  have HLS := Lib.hid hls
  have HTS := Lib.hid hts
  have HRR := Lib.hid hr
  clear hcl hM hls hts
  obtain ⟨rl, hrl2, hr⟩ := hr
  subst hrl2
  rw [List.length_map] at hrl
  obtain ⟨ao, cap, rfl⟩ := rdP_shape hr
  obtain ⟨vu, vk, vn, vb⟩ := v
  unfold cellsP
  simp only at hov ⊢
  unfold okE at hok
  rcases hok with rfl | ⟨rfl, hc0, hc1, ho1, ho2, hcmp⟩ | ⟨rfl, hc0, hc1⟩ | ⟨h45, hos⟩ | ⟨rfl, hl1, hos⟩
  · clear hov hr
    have HE := Lib.hid (show evalT (rl.map Prod.fst) (.mk 1 c o ⟨vu, vk, vn, vb⟩ l) = 1 by unfold evalT; simp)
    go_enter Try.func29, Try.ntmps29
    go_wp2_with fail
    go_ret
    exact ⟨by rw [HE.out] <;> rfl, below_alloc w _⟩
  · obtain ⟨q, x, rfl, hq, hx, h3⟩ := colT_in hc0 hc1
    rw [List.length_map] at hq
    have hxc := hcmp x hx
    obtain ⟨n, hN⟩ : ∃ n, n = rl.length := ⟨_, rfl⟩
    rw [← hN] at hr hrl hq ⊢
    obtain ⟨t, ht⟩ : ∃ t, rl[q]? = some t := ⟨_, List.getElem?_eq_getElem (by rw [← hN]; exact hq)⟩
    have hxt : x = t.1 := by rw [map_at ht] at hx; exact (Option.some.inj hx).symm
    subst hxt
    obtain ⟨b, off, rfl, p0, p1, p2, p3, ok⟩ := hr.at ht
    obtain ⟨ta, tc, hs⟩ := rd_shape8 ok.1
    obtain ⟨⟨tu, tk, tn, tb⟩, ts⟩ := t
    simp only at hs p0 p1 p2 p3 h3 hxc
    subst hs
    replace p0 := fun o => Lib.cell?_alloc_some (W := w) o p0
    replace p1 := fun o => Lib.cell?_alloc_some (W := w) o p1
    replace p2 := fun o => Lib.cell?_alloc_some (W := w) o p2
    replace p3 := fun o => Lib.cell?_alloc_some (W := w) o p3
    have HEV := Lib.hid (show evalT (rl.map Prod.fst) (.mk 2 (q : Int) o ⟨vu, vk, vn, vb⟩ l) = cmpE (rl.map Prod.fst) (q : Int) o ⟨vu, vk, vn, vb⟩ by unfold evalT; simp)
    cases tu
    · have HE := Lib.hid (show cmpE (rl.map Prod.fst) (q : Int) o ⟨vu, vk, vn, vb⟩ = verdB (holdsB o (refC ⟨false, tk, tn, tb⟩ ⟨vu, vk, vn, vb⟩)) by unfold cmpE; rw [h3, hxc rfl]; rfl)
      have HC := fun w' (h : Below w.heap.size w w') => Lib.hid (refCompare_any (⟨false, tk, tn, tb⟩, .slice ta tb.length tc) (⟨vu, vk, vn, vb⟩, .slice sa vb.length sc) w' (ok.kept h) (hov.kept h))
      unfold aggV at HC
      simp only at HC
      clear h3 hN hr hov ht hx ok hcmp hxc hc0 hc1
      go_enter Try.func29, Try.ntmps29
      go_upto_region 7 with (fail)
      have HZ := heap_alloc_new w (.cells #[.int .i64 2, .int .i64 (q : Int), .int .i64 o, .bool vu, .int .i64 vk, .int .i64 vn, .slice sa vb.length sc, .slice ea m ec] 31)
      have HBA := Lib.hid (below_alloc w (.cells #[.int .i64 2, .int .i64 (q : Int), .int .i64 o, .bool vu, .int .i64 vk, .int .i64 vn, .slice sa vb.length sc, .slice ea m ec] 31))
      replace p0 := p0 (.cells #[.int .i64 2, .int .i64 (q : Int), .int .i64 o, .bool vu, .int .i64 vk, .int .i64 vn, .slice sa vb.length sc, .slice ea m ec] 31)
      replace p1 := p1 (.cells #[.int .i64 2, .int .i64 (q : Int), .int .i64 o, .bool vu, .int .i64 vk, .int .i64 vn, .slice sa vb.length sc, .slice ea m ec] 31)
      replace p2 := p2 (.cells #[.int .i64 2, .int .i64 (q : Int), .int .i64 o, .bool vu, .int .i64 vk, .int .i64 vn, .slice sa vb.length sc, .slice ea m ec] 31)
      replace p3 := p3 (.cells #[.int .i64 2, .int .i64 (q : Int), .int .i64 o, .bool vu, .int .i64 vk, .int .i64 vn, .slice sa vb.length sc, .slice ea m ec] 31)
      obtain ⟨X, hX⟩ : ∃ X, X = w.heap.size := ⟨_, rfl⟩
      obtain ⟨W0, hW0⟩ : ∃ W0 : World, W0 = w.alloc (.cells #[.int .i64 2, .int .i64 (q : Int), .int .i64 o, .bool vu, .int .i64 vk, .int .i64 vn, .slice sa vb.length sc, .slice ea m ec] 31) := ⟨_, rfl⟩
      rw [← hW0] at p0 p1 p2 p3 HZ HBA ⊢
      rw [← hX] at HZ ⊢
      have hcell : ∀ i u, (#[.int .i64 2, .int .i64 (q : Int), .int .i64 o, .bool vu, .int .i64 vk, .int .i64 vn, .slice sa vb.length sc, .slice ea m ec] : Array Value)[i]? = some u → W0.cell? ⟨X, i, none⟩ = some u := fun i u h => by rw [cell_of_row W0 X i _ _ _ HZ]; exact h
      have HKP := Lib.hid (show ∀ w', Below W0.heap.size W0 w' → w'.cell? ⟨b, off + q * 4, none⟩ = some (.bool false) ∧ w'.cell? ⟨b, off + q * 4 + 1, none⟩ = some (.int .i64 tk) ∧ w'.cell? ⟨b, off + q * 4 + 2, none⟩ = some (.int .i64 tn) ∧ w'.cell? ⟨b, off + q * 4 + 3, none⟩ = some (.slice ta tb.length tc) ∧ w'.cell? ⟨X, 1, none⟩ = some (.int .i64 (q : Int)) ∧ w'.cell? ⟨X, 2, none⟩ = some (.int .i64 o) ∧ w'.cell? ⟨X, 3, none⟩ = some (.bool vu) ∧ w'.cell? ⟨X, 4, none⟩ = some (.int .i64 vk) ∧ w'.cell? ⟨X, 5, none⟩ = some (.int .i64 vn) ∧ w'.cell? ⟨X, 6, none⟩ = some (.slice sa vb.length sc) ∧ Below W0.heap.size W0 w' from fun w' h => by
        have kp : ∀ p u, W0.cell? p = some u → w'.cell? p = some u := fun p u hp => (h.cell (World.block_lt_of_cell? _ _ hp)).trans hp
        exact ⟨kp _ _ p0, kp _ _ p1, kp _ _ p2, kp _ _ p3, kp _ _ (hcell 1 _ rfl), kp _ _ (hcell 2 _ rfl), kp _ _ (hcell 3 _ rfl), kp _ _ (hcell 4 _ rfl), kp _ _ (hcell 5 _ rfl), kp _ _ (hcell 6 _ rfl), h⟩)
      clear hW0 hX HZ hcell p0 p1 p2 p3
      have hS := Below.refl W0.heap.size W0
      set_option maxRecDepth 1000000 in
      go_region_held3 (fun w' => w'.cell? ⟨b, off + q * 4, none⟩ = some (.bool false) ∧ w'.cell? ⟨b, off + q * 4 + 1, none⟩ = some (.int .i64 tk) ∧ w'.cell? ⟨b, off + q * 4 + 2, none⟩ = some (.int .i64 tn) ∧ w'.cell? ⟨b, off + q * 4 + 3, none⟩ = some (.slice ta tb.length tc) ∧ w'.cell? ⟨X, 1, none⟩ = some (.int .i64 (q : Int)) ∧ w'.cell? ⟨X, 2, none⟩ = some (.int .i64 o) ∧ w'.cell? ⟨X, 3, none⟩ = some (.bool vu) ∧ w'.cell? ⟨X, 4, none⟩ = some (.int .i64 vk) ∧ w'.cell? ⟨X, 5, none⟩ = some (.int .i64 vn) ∧ w'.cell? ⟨X, 6, none⟩ = some (.slice sa vb.length sc) ∧ Below W0.heap.size W0 w') (first | assumption | exact HKP.out _ (by first | assumption | exact Below.trans (by assumption) (below_drw _ _)))
        (first
          | (go_at_call 34; refine ((HC _ (below_then HBA.out (by first | assumption | exact Below.trans (by assumption) (below_drw _ _)))).out).mono ?_; rintro e w2 ⟨rfl, hb⟩; have hb2 : Below W0.heap.size W0 w2 := below_then (by first | assumption | exact Below.trans (by assumption) (below_drw _ _)) hb)
          | (go_at_call 66; refine (refHolds_any _ _ ho1 ho2 _).mono ?_; rintro e w3 ⟨rfl, rfl⟩)
          | (go_at_call 65; refine (truth_any _ _).mono ?_; rintro e w4 ⟨rfl, rfl⟩))
      go_wp2_with fail
      go_ret
      exact ⟨by rw [HEV.out, HE.out] <;> rfl, below_then HBA.out hb2⟩
    · have HE := Lib.hid (show cmpE (rl.map Prod.fst) (q : Int) o ⟨vu, vk, vn, vb⟩ = 3 by unfold cmpE; rw [h3]; rfl)
      clear h3 hN hr hov ht hx ok hcmp hxc hc0 hc1
      go_enter Try.func29, Try.ntmps29
      go_wp2_with fail
      go_ret
      exact ⟨by rw [HEV.out, HE.out] <;> rfl, below_alloc w _⟩
  · obtain ⟨q, x, rfl, hq, hx, h3⟩ := colT_in hc0 hc1
    rw [List.length_map] at hq
    obtain ⟨n, hN⟩ : ∃ n, n = rl.length := ⟨_, rfl⟩
    rw [← hN] at hr hrl hq ⊢
    obtain ⟨t, ht⟩ : ∃ t, rl[q]? = some t := ⟨_, List.getElem?_eq_getElem (by rw [← hN]; exact hq)⟩
    have hxt : x = t.1 := by rw [map_at ht] at hx; exact (Option.some.inj hx).symm
    subst hxt
    obtain ⟨b, off, rfl, p0, p1, p2, p3, ok⟩ := hr.at ht
    have HE := Lib.hid (show evalT (rl.map Prod.fst) (.mk 3 (q : Int) o ⟨vu, vk, vn, vb⟩ l) = verdB t.1.u by unfold evalT; simp [nullE, h3])
    replace p0 := fun o => Lib.cell?_alloc_some (W := w) o p0
    clear h3 hN hr hov ht hx ok p1 p2 p3 hc0 hc1
    go_enter Try.func29, Try.ntmps29
    go_wp2_with (go_at_call 65; refine (truth_any _ _).mono ?_; rintro e w4 ⟨rfl, rfl⟩)
    go_ret
    exact ⟨by rw [HE.out] <;> rfl, below_alloc w _⟩
  · have HOS := Lib.hid hos
    clear hos hr hov
    rcases h45 with rfl | rfl
    · have HE := Lib.hid (show evalT (rl.map Prod.fst) (.mk 4 c o ⟨vu, vk, vn, vb⟩ l) = listE 2 1 (evalL (rl.map Prod.fst) l) by unfold evalT; simp)
      go_enter Try.func29, Try.ntmps29
      go_wp2_with fail
      obtain ⟨W0, hW0⟩ : ∃ W0 : World, W0 = w.alloc (.cells #[.int .i64 4, .int .i64 c, .int .i64 o, .bool vu, .int .i64 vk, .int .i64 vn, .slice sa vb.length sc, .slice ea m ec] 31) := ⟨_, rfl⟩
      have hx0 : W0.heap[w.heap.size]? = some (.cells #[.int .i64 4, .int .i64 c, .int .i64 o, .bool vu, .int .i64 vk, .int .i64 vn, .slice sa vb.length sc, .slice ea m ec] 31 (0, 0)) := by rw [hW0]; exact heap_alloc_new w _
      have HB0 := Lib.hid (show Below w.heap.size w W0 by rw [hW0]; exact below_alloc w _)
      rw [← hW0]
      obtain ⟨X, hX⟩ : ∃ X, X = w.heap.size := ⟨_, rfl⟩
      rw [← hX] at hx0 ⊢
      have HX0 := Lib.hid hx0
      clear hW0 hX hx0
      go_loopw [6, 7] (fun x i wr => ∃ q : Nat, q ≤ m ∧ i = .int .i64 (q : Int) ∧ x = .int .i64 (outE 1 (evalL (rl.map Prod.fst) (l.take q))) ∧ 2 ∉ evalL (rl.map Prod.fst) (l.take q) ∧ Below W0.heap.size W0 wr) (fun _ i _ => m - (intOf i).toNat)
      case atStart => exact ⟨0, Nat.zero_le _, rfl, by simp [evalL, outE], by simp [evalL], Below.refl _ _⟩
      case round =>
        obtain ⟨q, hq, rfl, rfl, hns, hb⟩ := hrel
        obtain ⟨out, hout⟩ : ∃ out, out = (outE 1 (evalL (rl.map Prod.fst) (l.take q))) := ⟨_, rfl⟩
        rw [← hout]
        have HNS := Lib.hid hns
        have HO := Lib.hid hout
        have HB := Lib.hid hb
        have hxr := (hb.block X (Array.getElem?_eq_some_iff.1 HX0.out).1).trans HX0.out
        have x7 : wr.cell? ⟨X, 7, none⟩ = some (.slice ea m ec) := by rw [cell_of_row wr X 7 _ _ _ hxr]; rfl
        clear hns hout hb hxr
        by_cases hlt : q < m
        · obtain ⟨p, hp⟩ : ∃ p, l[q]? = some p := ⟨_, List.getElem?_eq_getElem (by rw [← HM.out]; exact hlt)⟩
          have hltb : decide ((q : Int) < (m : Int)) = true := by rw [decide_eq_true_eq]; omega
          have HE1 := Lib.hid (show evalL (rl.map Prod.fst) (l.take (q + 1)) = evalL (rl.map Prod.fst) (l.take q) ++ [evalT (rl.map Prod.fst) p] by rw [evalL_eq, evalL_eq, List.take_add_one, hp, List.map_append]; rfl)
          have HMM := Lib.hid (show evalT (rl.map Prod.fst) p ∈ evalL (rl.map Prod.fst) l by rw [evalL_eq]; exact List.mem_map.2 ⟨p, List.mem_of_getElem? hp, rfl⟩)
          obtain ⟨cs, hcs, hrd⟩ := rdTs_at HTS.out hp
          have HBW := Lib.hid (below_then HB0.out HB.out)
          have HCL := Lib.hid (HIH.out q p hp (okEs_mem HOS.out hp) cs _ wr (RdT1.kept HBW.out _ hrd) (HRR.out.kept HBW.out))
          clear hp
          obtain ⟨x, hx⟩ : ∃ x, x = evalT (rl.map Prod.fst) p := ⟨_, rfl⟩
          rw [← hx] at HE1 HMM HCL
          clear hx
          obtain ⟨pk, pc, po, pv, pl⟩ := p
          unfold RdT1 at hrd
          obtain ⟨es, els, ecss, rfl, hok3, hels, hets⟩ := hrd
          obtain ⟨sa3, sc3, hes⟩ := rd_shape8 hok3.1
          obtain ⟨ea3, ec3, hel⟩ := rdS_shape hels
          simp only at hes
          subst hes hel
          obtain ⟨b, off, rfl, hcell⟩ := (HLS.out.kept HBW.out).at hcs
          have k0 := hcell 0 _ rfl
          have k1 := hcell 1 _ rfl
          have k2 := hcell 2 _ rfl
          have k3 := hcell 3 _ rfl
          have k4 := hcell 4 _ rfl
          have k5 := hcell 5 _ rfl
          have k6 := hcell 6 _ rfl
          have k7 := hcell 7 _ rfl
          simp only [Nat.add_zero] at k0
          obtain ⟨pu, pvk, pvn, pb⟩ := pv
          unfold cellsP at HCL
          simp only at HCL k0 k1 k2 k3 k4 k5 k6 k7
          clear hok3 hels hets hcell hcs
          by_cases hxs : x = 2
          · have HA := Lib.hid (show listE 2 1 (evalL (rl.map Prod.fst) l) = 2 by unfold listE; rw [if_pos (by rw [← hxs]; exact HMM.out)])
            subst hxs
            go_wp2_with fail
            refine HCL.out.mono ?_
            rintro e w2 ⟨rfl, hb2⟩
            have HF := Lib.hid (below_then HBW.out hb2)
            clear hb2
            go_wp2_with fail
            go_ret
            exact ⟨by rw [HE.out, HA.out] <;> rfl, HF.out⟩
          · have hq1 : (x == 2) = false := by rw [beq_eq_false_iff_ne]; exact hxs
            have HNS2 := Lib.hid (show 2 ∉ evalL (rl.map Prod.fst) (l.take (q + 1)) by rw [HE1.out, List.mem_append, List.mem_singleton]; exact fun h => h.elim HNS.out fun h => hxs h.symm)
            clear hxs
            by_cases hx3 : x = 3
            · have HO2 := Lib.hid (show (3 : Int) = outE 1 (evalL (rl.map Prod.fst) (l.take (q + 1))) by unfold outE; rw [if_pos (by rw [HE1.out, hx3]; simp)])
              subst hx3
              go_wp2_with fail
              refine HCL.out.mono ?_
              rintro e w2 ⟨rfl, hb2⟩
              have HF := Lib.hid (HB.out.trans (hb2.mono HB.out.size))
              clear hb2
              go_wp2_with fail
              go_roundw
              case rel => exact ⟨q + 1, by omega, by go_num, by rw [← HO2.out], HNS2.out, HF.out⟩
              case measure => simp [intOf]; omega
            · have hq3 : (x == 3) = false := by rw [beq_eq_false_iff_ne]; exact hx3
              have HO2 := Lib.hid (show out = outE 1 (evalL (rl.map Prod.fst) (l.take (q + 1))) by
                rw [HO.out, HE1.out]
                unfold outE
                simp only [List.mem_append, List.mem_singleton, show ¬ (3 : Int) = x from fun h => hx3 h.symm, or_false])
              clear hx3
              go_wp2_with fail
              refine HCL.out.mono ?_
              rintro e w2 ⟨rfl, hb2⟩
              have HF := Lib.hid (HB.out.trans (hb2.mono HB.out.size))
              clear hb2
              go_wp2_with fail
              go_roundw
              case rel => exact ⟨q + 1, by omega, by go_num, by rw [← HO2.out], HNS2.out, HF.out⟩
              case measure => simp [intOf]; omega
        · have hqm : q = m := by omega
          have htk : l.take q = l := List.take_of_length_le (by rw [← HM.out]; omega)
          have hltb : decide ((q : Int) < (m : Int)) = false := by rw [decide_eq_false_iff_not]; omega
          have HA := Lib.hid (show listE 2 1 (evalL (rl.map Prod.fst) l) = out by
            have h1 := HNS.out
            have h2 := HO.out
            rw [htk] at h1 h2
            unfold listE
            rw [if_neg h1, h2]
            rfl)
          have HF := Lib.hid (below_then HB0.out HB.out)
          clear htk hqm
          go_wp2_with fail
          go_ret
          exact ⟨by rw [HE.out, HA.out] <;> rfl, HF.out⟩
    · have HE := Lib.hid (show evalT (rl.map Prod.fst) (.mk 5 c o ⟨vu, vk, vn, vb⟩ l) = listE 1 2 (evalL (rl.map Prod.fst) l) by unfold evalT; simp)
      go_enter Try.func29, Try.ntmps29
      go_wp2_with fail
      obtain ⟨W0, hW0⟩ : ∃ W0 : World, W0 = w.alloc (.cells #[.int .i64 5, .int .i64 c, .int .i64 o, .bool vu, .int .i64 vk, .int .i64 vn, .slice sa vb.length sc, .slice ea m ec] 31) := ⟨_, rfl⟩
      have hx0 : W0.heap[w.heap.size]? = some (.cells #[.int .i64 5, .int .i64 c, .int .i64 o, .bool vu, .int .i64 vk, .int .i64 vn, .slice sa vb.length sc, .slice ea m ec] 31 (0, 0)) := by rw [hW0]; exact heap_alloc_new w _
      have HB0 := Lib.hid (show Below w.heap.size w W0 by rw [hW0]; exact below_alloc w _)
      rw [← hW0]
      obtain ⟨X, hX⟩ : ∃ X, X = w.heap.size := ⟨_, rfl⟩
      rw [← hX] at hx0 ⊢
      have HX0 := Lib.hid hx0
      clear hW0 hX hx0
      go_loopw [6, 7] (fun x i wr => ∃ q : Nat, q ≤ m ∧ i = .int .i64 (q : Int) ∧ x = .int .i64 (outE 2 (evalL (rl.map Prod.fst) (l.take q))) ∧ 1 ∉ evalL (rl.map Prod.fst) (l.take q) ∧ Below W0.heap.size W0 wr) (fun _ i _ => m - (intOf i).toNat)
      case atStart => exact ⟨0, Nat.zero_le _, rfl, by simp [evalL, outE], by simp [evalL], Below.refl _ _⟩
      case round =>
        obtain ⟨q, hq, rfl, rfl, hns, hb⟩ := hrel
        obtain ⟨out, hout⟩ : ∃ out, out = (outE 2 (evalL (rl.map Prod.fst) (l.take q))) := ⟨_, rfl⟩
        rw [← hout]
        have HNS := Lib.hid hns
        have HO := Lib.hid hout
        have HB := Lib.hid hb
        have hxr := (hb.block X (Array.getElem?_eq_some_iff.1 HX0.out).1).trans HX0.out
        have x7 : wr.cell? ⟨X, 7, none⟩ = some (.slice ea m ec) := by rw [cell_of_row wr X 7 _ _ _ hxr]; rfl
        clear hns hout hb hxr
        by_cases hlt : q < m
        · obtain ⟨p, hp⟩ : ∃ p, l[q]? = some p := ⟨_, List.getElem?_eq_getElem (by rw [← HM.out]; exact hlt)⟩
          have hltb : decide ((q : Int) < (m : Int)) = true := by rw [decide_eq_true_eq]; omega
          have HE1 := Lib.hid (show evalL (rl.map Prod.fst) (l.take (q + 1)) = evalL (rl.map Prod.fst) (l.take q) ++ [evalT (rl.map Prod.fst) p] by rw [evalL_eq, evalL_eq, List.take_add_one, hp, List.map_append]; rfl)
          have HMM := Lib.hid (show evalT (rl.map Prod.fst) p ∈ evalL (rl.map Prod.fst) l by rw [evalL_eq]; exact List.mem_map.2 ⟨p, List.mem_of_getElem? hp, rfl⟩)
          obtain ⟨cs, hcs, hrd⟩ := rdTs_at HTS.out hp
          have HBW := Lib.hid (below_then HB0.out HB.out)
          have HCL := Lib.hid (HIH.out q p hp (okEs_mem HOS.out hp) cs _ wr (RdT1.kept HBW.out _ hrd) (HRR.out.kept HBW.out))
          clear hp
          obtain ⟨x, hx⟩ : ∃ x, x = evalT (rl.map Prod.fst) p := ⟨_, rfl⟩
          rw [← hx] at HE1 HMM HCL
          clear hx
          obtain ⟨pk, pc, po, pv, pl⟩ := p
          unfold RdT1 at hrd
          obtain ⟨es, els, ecss, rfl, hok3, hels, hets⟩ := hrd
          obtain ⟨sa3, sc3, hes⟩ := rd_shape8 hok3.1
          obtain ⟨ea3, ec3, hel⟩ := rdS_shape hels
          simp only at hes
          subst hes hel
          obtain ⟨b, off, rfl, hcell⟩ := (HLS.out.kept HBW.out).at hcs
          have k0 := hcell 0 _ rfl
          have k1 := hcell 1 _ rfl
          have k2 := hcell 2 _ rfl
          have k3 := hcell 3 _ rfl
          have k4 := hcell 4 _ rfl
          have k5 := hcell 5 _ rfl
          have k6 := hcell 6 _ rfl
          have k7 := hcell 7 _ rfl
          simp only [Nat.add_zero] at k0
          obtain ⟨pu, pvk, pvn, pb⟩ := pv
          unfold cellsP at HCL
          simp only at HCL k0 k1 k2 k3 k4 k5 k6 k7
          clear hok3 hels hets hcell hcs
          by_cases hxs : x = 1
          · have HA := Lib.hid (show listE 1 2 (evalL (rl.map Prod.fst) l) = 1 by unfold listE; rw [if_pos (by rw [← hxs]; exact HMM.out)])
            subst hxs
            go_wp2_with fail
            refine HCL.out.mono ?_
            rintro e w2 ⟨rfl, hb2⟩
            have HF := Lib.hid (below_then HBW.out hb2)
            clear hb2
            go_wp2_with fail
            go_ret
            exact ⟨by rw [HE.out, HA.out] <;> rfl, HF.out⟩
          · have hq1 : (x == 1) = false := by rw [beq_eq_false_iff_ne]; exact hxs
            have HNS2 := Lib.hid (show 1 ∉ evalL (rl.map Prod.fst) (l.take (q + 1)) by rw [HE1.out, List.mem_append, List.mem_singleton]; exact fun h => h.elim HNS.out fun h => hxs h.symm)
            clear hxs
            by_cases hx3 : x = 3
            · have HO2 := Lib.hid (show (3 : Int) = outE 2 (evalL (rl.map Prod.fst) (l.take (q + 1))) by unfold outE; rw [if_pos (by rw [HE1.out, hx3]; simp)])
              subst hx3
              go_wp2_with fail
              refine HCL.out.mono ?_
              rintro e w2 ⟨rfl, hb2⟩
              have HF := Lib.hid (HB.out.trans (hb2.mono HB.out.size))
              clear hb2
              go_wp2_with fail
              go_roundw
              case rel => exact ⟨q + 1, by omega, by go_num, by rw [← HO2.out], HNS2.out, HF.out⟩
              case measure => simp [intOf]; omega
            · have hq3 : (x == 3) = false := by rw [beq_eq_false_iff_ne]; exact hx3
              have HO2 := Lib.hid (show out = outE 2 (evalL (rl.map Prod.fst) (l.take (q + 1))) by
                rw [HO.out, HE1.out]
                unfold outE
                simp only [List.mem_append, List.mem_singleton, show ¬ (3 : Int) = x from fun h => hx3 h.symm, or_false])
              clear hx3
              go_wp2_with fail
              refine HCL.out.mono ?_
              rintro e w2 ⟨rfl, hb2⟩
              have HF := Lib.hid (HB.out.trans (hb2.mono HB.out.size))
              clear hb2
              go_wp2_with fail
              go_roundw
              case rel => exact ⟨q + 1, by omega, by go_num, by rw [← HO2.out], HNS2.out, HF.out⟩
              case measure => simp [intOf]; omega
        · have hqm : q = m := by omega
          have htk : l.take q = l := List.take_of_length_le (by rw [← HM.out]; omega)
          have hltb : decide ((q : Int) < (m : Int)) = false := by rw [decide_eq_false_iff_not]; omega
          have HA := Lib.hid (show listE 1 2 (evalL (rl.map Prod.fst) l) = out by
            have h1 := HNS.out
            have h2 := HO.out
            rw [htk] at h1 h2
            unfold listE
            rw [if_neg h1, h2]
            rfl)
          have HF := Lib.hid (below_then HB0.out HB.out)
          clear htk hqm
          go_wp2_with fail
          go_ret
          exact ⟨by rw [HE.out, HA.out] <;> rfl, HF.out⟩
  · obtain ⟨q, hq⟩ : ∃ q, l = [q] := by
      match l, hl1 with
      | [q], _ => exact ⟨q, rfl⟩
    subst hq
    have hm1 : m = 1 := by rw [HM.out]; rfl
    subst hm1
    have HE := Lib.hid (show evalT (rl.map Prod.fst) (.mk 6 c o ⟨vu, vk, vn, vb⟩ [q]) = otherT (evalT (rl.map Prod.fst) q) by rw [evalT, evalL, evalL]; simp)
    obtain ⟨cs, hcs, hrd⟩ := rdTs_at HTS.out (k := 0) (q := q) rfl
    have hb0 := below_alloc w (.cells #[.int .i64 6, .int .i64 c, .int .i64 o, .bool vu, .int .i64 vk, .int .i64 vn, .slice sa vb.length sc, .slice ea 1 ec] 31)
    have HCL := Lib.hid (HIH.out 0 q rfl (okEs_mem hos (i := 0) rfl) cs _ (w.alloc (.cells #[.int .i64 6, .int .i64 c, .int .i64 o, .bool vu, .int .i64 vk, .int .i64 vn, .slice sa vb.length sc, .slice ea 1 ec] 31)) (RdT1.kept hb0 _ hrd) (HRR.out.kept hb0))
    have HB0 := Lib.hid hb0
    have HTH := Lib.hid (evalT_range (rl.map Prod.fst) q)
    obtain ⟨x, hx⟩ : ∃ x, x = evalT (rl.map Prod.fst) q := ⟨_, rfl⟩
    rw [← hx] at HE HCL HTH
    have hat := HLS.out.at hcs
    clear hx hb0
    obtain ⟨pk, pc, po, pv, pl⟩ := q
    unfold RdT1 at hrd
    obtain ⟨es, els, ecss, rfl, hok3, hels, hets⟩ := hrd
    obtain ⟨sa3, sc3, hes⟩ := rd_shape8 hok3.1
    obtain ⟨ea3, ec3, hel⟩ := rdS_shape hels
    simp only at hes
    subst hes hel
    obtain ⟨b, off, rfl, hcell⟩ := hat
    obtain ⟨pu, pvk, pvn, pb⟩ := pv
    have k0 : w.cell? ⟨b, off + 0 * 8 + 0, none⟩ = some (.int .i64 pk) := hcell 0 _ rfl
    have k1 : w.cell? ⟨b, off + 0 * 8 + 1, none⟩ = some (.int .i64 pc) := hcell 1 _ rfl
    have k2 : w.cell? ⟨b, off + 0 * 8 + 2, none⟩ = some (.int .i64 po) := hcell 2 _ rfl
    have k3 : w.cell? ⟨b, off + 0 * 8 + 3, none⟩ = some (.bool pu) := hcell 3 _ rfl
    have k4 : w.cell? ⟨b, off + 0 * 8 + 4, none⟩ = some (.int .i64 pvk) := hcell 4 _ rfl
    have k5 : w.cell? ⟨b, off + 0 * 8 + 5, none⟩ = some (.int .i64 pvn) := hcell 5 _ rfl
    have k6 : w.cell? ⟨b, off + 0 * 8 + 6, none⟩ = some (.slice sa3 pb.length sc3) := hcell 6 _ rfl
    have k7 : w.cell? ⟨b, off + 0 * 8 + 7, none⟩ = some (.slice ea3 ecss.length ec3) := hcell 7 _ rfl
    simp only [Nat.zero_mul, Nat.add_zero] at k0 k1 k2 k3 k4 k5 k6 k7
    replace k0 := fun o => Lib.cell?_alloc_some (W := w) o k0
    replace k1 := fun o => Lib.cell?_alloc_some (W := w) o k1
    replace k2 := fun o => Lib.cell?_alloc_some (W := w) o k2
    replace k3 := fun o => Lib.cell?_alloc_some (W := w) o k3
    replace k4 := fun o => Lib.cell?_alloc_some (W := w) o k4
    replace k5 := fun o => Lib.cell?_alloc_some (W := w) o k5
    replace k6 := fun o => Lib.cell?_alloc_some (W := w) o k6
    replace k7 := fun o => Lib.cell?_alloc_some (W := w) o k7
    unfold cellsP at HCL
    simp only at HCL
    clear hok3 hels hets hcell hcs hos hl1 hr hov hl6
    go_enter Try.func29, Try.ntmps29
    go_wp2_with fail
    refine HCL.out.mono ?_
    rintro e w3 ⟨rfl, hb3⟩
    have HB3 := Lib.hid (below_then HB0.out hb3)
    clear hb3
    rcases HTH.out with hx | hx | hx
    all_goals
      subst hx
      go_wp2_with fail
      go_ret
      exact ⟨by rw [HE.out] <;> rfl, HB3.out⟩

theorem evRef_any (r : List Vc) (hrl : r.length ≤ 1000000) : ∀ (d : Nat) (p : Pt), depT p ≤ d → cntT p ≤ 10000000 → okE r p → EvOK r p := by
  intro d
  induction d with
  | zero =>
    intro p hp
    obtain ⟨k, c, o, v, l⟩ := p
    unfold depT at hp
    omega
  | succ d ih =>
    intro p hp hc hok
    obtain ⟨k, c, o, v, l⟩ := p
    unfold depT at hp
    unfold cntT at hc
    exact ev_step r hrl k c o v l (by omega) hok fun i q hq h => ih q (by have := depL_mem hq; omega) (by have := cntL_mem hq; omega) h

end Go.Proofs.Ytpabneinikbneaa
