/-
  Contract of norm.Norm.
-/
import Derived.Test.YtfmkalnnpddefaaNnrm
import Derived.Deep.RegionLaw
import Derived.Deep.CutBlock
import Derived.Deep.DeepCutAuto
namespace Go.Proofs.Ytfmkalnnpddefaa
set_option linter.unusedVariables false
set_option linter.unusedSimpArgs false
open Go.RowKit

theorem results_cell_tmp {P : Program} {fn : Func} {p q : Tmp} {ty : TypeId} (h : fn.results = #[.cell p ty, .tmp q]) (tmps : Array Value) (w : World) (g : Nat) (t : TypeId) (cs : Array Value) (fr : Nat × Nat) (d : TypeDesc) (v : Value)
    (hp : tmps.getD p undef = .pointer (some ⟨g, 0, none⟩)) (hq : tmps.getD q undef = v) (hg : w.heap[g]? = some (.cells cs t fr))
    (hu : P.underlying ty = some d) (hd : (match d with | .struct _ | .array _ _ => true | _ => false) = true) (hi : (P.info? ty).map (·.size) = some cs.size) :
    (results fn tmps).run P w = .ok (.tuple #[.agg cs, v]) w := by
  have hp' : tmps[p]?.getD undef = .pointer (some ⟨g, 0, none⟩) := by simpa using hp
  have hq' : tmps[q]?.getD undef = v := by simpa using hq
  simp [results, h, hp', hq', asAddr, run_loadVar_row w g t ty cs fr d hg hu hd hi]

/-! What the things of a form are made of. -/
def LeafN (D C : Nat) (t : Pt) : Prop := depT t ≤ D + 1 ∧ cntT t ≤ C + 1
theorem timesN_all {Q : Pt → Prop} {a b o : List (List Pt)} (ha : ∀ x ∈ a, ∀ t ∈ x, Q t) (hb : ∀ x ∈ b, ∀ t ∈ x, Q t) (h : timesN a b = some o) : ∀ x ∈ o, ∀ t ∈ x, Q t := by
  unfold timesN at h
  split at h
  · cases h
  · split at h
    · cases h
      intro x hx t ht
      unfold prodL at hx
      obtain ⟨y, hy, hx⟩ := List.mem_flatMap.1 hx
      obtain ⟨z, hz, rfl⟩ := List.mem_map.1 hx
      rcases List.mem_append.1 ht with h1 | h1
      · exact ha y hy t h1
      · exact hb z hz t h1
    · cases h
/-- A fact that holds of all that a leaf may become holds of all things of a form. -/
def OfLeaf (R Q : Pt → Prop) : Prop := (∀ c o v l, R (.mk 2 c o v l) → ∀ o', o' = o ∨ o' = opN o → Q (.mk 2 c o' v l)) ∧ (∀ c o v l, R (.mk 3 c o v l) → Q (.mk 3 c o v l) ∧ Q (.mk 6 0 0 zeroV [.mk 3 c o v l]))
mutual
theorem nrm_all {R Q : Pt → Prop} (hq : OfLeaf R Q) (hr : ∀ k c o v l, k = 4 ∨ k = 5 ∨ k = 6 → R (.mk k c o v l) → ∀ q ∈ l, R q) : ∀ (p : Pt) (nt : Bool) {a : List (List Pt)}, R p → nrm p nt = some a → ∀ x ∈ a, ∀ t ∈ x, Q t
  | .mk k c o v l, nt, a, hp, h => by
    unfold nrm at h
    split at h
    · cases h; cases nt <;> simp
    · split at h
      · rename_i hk
        subst hk
        cases h
        intro x hx t ht
        rw [List.mem_singleton.1 hx] at ht
        rw [List.mem_singleton.1 ht]
        exact hq.1 c o v l hp _ (by cases nt <;> simp)
      · split at h
        · rename_i hk
          subst hk
          cases h
          intro x hx t ht
          rw [List.mem_singleton.1 hx] at ht
          rw [List.mem_singleton.1 ht]
          have := hq.2 c o v l hp
          cases nt
          · exact this.1
          · exact this.2
        · split at h
          · rename_i hk
            exact nrmOne_all hq hr l nt (hr k c o v l (.inr (.inr hk)) hp) h
          · split at h
            · rename_i hk
              split at h
              · exact prodN_all hq hr l nt [[]] (hr k c o v l (hk.elim .inl fun h => .inr (.inl h)) hp) (by simp) h
              · exact sumN_all hq hr l nt [] (hr k c o v l (hk.elim .inl fun h => .inr (.inl h)) hp) (by simp) h
            · cases h
theorem nrmOne_all {R Q : Pt → Prop} (hq : OfLeaf R Q) (hr : ∀ k c o v l, k = 4 ∨ k = 5 ∨ k = 6 → R (.mk k c o v l) → ∀ q ∈ l, R q) : ∀ (l : List Pt) (nt : Bool) {a : List (List Pt)}, (∀ q ∈ l, R q) → nrmOne l nt = some a → ∀ x ∈ a, ∀ t ∈ x, Q t
  | [], nt, a, hp, h => by unfold nrmOne at h; cases h
  | q :: r, nt, a, hp, h => by
    unfold nrmOne at h
    split at h
    · exact nrm_all hq hr q _ (hp q List.mem_cons_self) h
    · cases h
theorem sumN_all {R Q : Pt → Prop} (hq : OfLeaf R Q) (hr : ∀ k c o v l, k = 4 ∨ k = 5 ∨ k = 6 → R (.mk k c o v l) → ∀ q ∈ l, R q) : ∀ (l : List Pt) (nt : Bool) (out : List (List Pt)) {a : List (List Pt)}, (∀ q ∈ l, R q) → (∀ x ∈ out, ∀ t ∈ x, Q t) → sumN l nt out = some a → ∀ x ∈ a, ∀ t ∈ x, Q t
  | [], nt, out, a, hp, ho, h => by unfold sumN at h; cases h; exact ho
  | q :: r, nt, out, a, hp, ho, h => by
    unfold sumN at h
    split at h
    · cases h
    · rename_i m hm
      split at h
      · cases h
      · have hs := nrm_all hq hr q nt (hp q List.mem_cons_self) hm
        refine sumN_all hq hr r nt (out ++ m) (fun q hq => hp q (List.mem_cons_of_mem _ hq)) (fun x hx => ?_) h
        rcases List.mem_append.1 hx with h1 | h1
        · exact ho x h1
        · exact hs x h1
theorem prodN_all {R Q : Pt → Prop} (hq : OfLeaf R Q) (hr : ∀ k c o v l, k = 4 ∨ k = 5 ∨ k = 6 → R (.mk k c o v l) → ∀ q ∈ l, R q) : ∀ (l : List Pt) (nt : Bool) (out : List (List Pt)) {a : List (List Pt)}, (∀ q ∈ l, R q) → (∀ x ∈ out, ∀ t ∈ x, Q t) → prodN l nt out = some a → ∀ x ∈ a, ∀ t ∈ x, Q t
  | [], nt, out, a, hp, ho, h => by unfold prodN at h; cases h; exact ho
  | q :: r, nt, out, a, hp, ho, h => by
    unfold prodN at h
    split at h
    · cases h
    · rename_i m hm
      split at h
      · cases h
      · rename_i o2 ho2
        exact prodN_all hq hr r nt o2 (fun q hq => hp q (List.mem_cons_of_mem _ hq)) (timesN_all ho (nrm_all hq hr q nt (hp q List.mem_cons_self) hm) ho2) h
end
theorem nrm_leaf {p : Pt} {nt : Bool} {a : List (List Pt)} {D C : Nat} (hd : depT p ≤ D) (hc : cntT p ≤ C) (h : nrm p nt = some a) : ∀ x ∈ a, ∀ t ∈ x, LeafN D C t := by
  refine nrm_all (R := fun q => depT q ≤ D ∧ cntT q ≤ C) ⟨fun c o v l hr o' _ => ?_, fun c o v l hr => ?_⟩ (fun k c o v l _ hr q hq => ?_) p nt ⟨hd, hc⟩ h
  · obtain ⟨h1, h2⟩ := hr
    unfold depT at h1
    unfold cntT at h2
    unfold LeafN depT cntT
    omega
  · obtain ⟨h1, h2⟩ := hr
    unfold depT at h1
    unfold cntT at h2
    unfold LeafN
    simp only [depT, cntT, depL, cntL, zeroV, List.length_nil, List.length_cons]
    omega
  · obtain ⟨i, hi, rfl⟩ := List.mem_iff_getElem.1 hq
    have h3 := depL_mem (List.getElem?_eq_getElem hi)
    have h4 := cntL_mem (List.getElem?_eq_getElem hi)
    obtain ⟨h1, h2⟩ := hr
    unfold depT at h1
    unfold cntT at h2
    omega

/-- A predicate of one's own, and whether there is one. -/
def RetP (w : World) (r : Option Pt) (e : Ending) (w' : World) : Prop := match r with
  | none => e = .returned (.tuple #[.agg #[.int .i64 0, .int .i64 0, .int .i64 0, .bool false, .int .i64 0, .int .i64 0, .slice none 0 0, .slice none 0 0], .bool false])
  | some q => ∃ cs', e = .returned (.tuple #[.agg cs'.toArray, .bool true]) ∧ RdA1 w.heap.size w' q cs'

theorem free_above {K : Nat} {w : World} {P : World → Prop} (h : ∀ w', Above K w w' → P w') : Free (fun b => b < K) w P := fun w' ha => h w' (agree_above ha fun i hi => hi)

set_option maxRecDepth 100000 in
set_option maxHeartbeats 8000000 in
theorem norm_any (p : Pt) (hd : depT p ≤ 900) (hc : cntT p ≤ 60000) (hn : nodesT p ≤ 4096) (cs : List Value) (w : World) (hr : RdT1 w p cs) :
    Calls Try.prog 24 #[.agg cs.toArray] w fun e w' => RetP w (normT p) e w' ∧ Below w.heap.size w w' := by
  obtain ⟨r, hrr⟩ : ∃ r, r = nrm p false := ⟨_, rfl⟩
  have HT := Lib.hid (show normT p = r.map fun a => .mk 5 0 0 zeroV (a.map fun x => .mk 4 0 0 zeroV x) by rw [hrr]; rfl)
  have HLF := Lib.hid (show ∀ a, r = some a → (∀ x ∈ a, ∀ t ∈ x, LeafN 900 60000 t) ∧ SmallN a from fun a ha => ⟨nrm_leaf hd hc (hrr ▸ ha), nrm_small p false (hrr ▸ ha)⟩)
  have HN := normal_any _ p (Nat.le_refl _) hd (by omega)
  have HRD := Lib.hid hr
  obtain ⟨k, c, o, v, l⟩ := p
  unfold RdT1 at hr
  obtain ⟨s, ls, css, rfl, hok, hls, hts⟩ := hr
  obtain ⟨sa, sc, hes⟩ := rd_shape8 hok.1
  obtain ⟨ea, ec, hel⟩ := rdS_shape hls
  simp only at hes
  subst hes hel
  obtain ⟨vu, vk, vn, vb⟩ := v
  have hb3 := below3 w (.cells #[.int .i64 k, .int .i64 c, .int .i64 o, .bool vu, .int .i64 vk, .int .i64 vn, .slice sa vb.length sc, .slice ea css.length ec] 31) (.cells #[.int .i64 0, .int .i64 0, .int .i64 0, .bool false, .int .i64 0, .int .i64 0, .slice none 0 0, .slice none 0 0] 31) (.cells #[.int .i64 4096] 3)
  obtain ⟨y1, y2⟩ := heaps3 w (.cells #[.int .i64 k, .int .i64 c, .int .i64 o, .bool vu, .int .i64 vk, .int .i64 vn, .slice sa vb.length sc, .slice ea css.length ec] 31) (.cells #[.int .i64 0, .int .i64 0, .int .i64 0, .bool false, .int .i64 0, .int .i64 0, .slice none 0 0, .slice none 0 0] 31) (.cells #[.int .i64 4096] 3)
  have hsz : (((w.alloc (.cells #[.int .i64 k, .int .i64 c, .int .i64 o, .bool vu, .int .i64 vk, .int .i64 vn, .slice sa vb.length sc, .slice ea css.length ec] 31)).alloc (.cells #[.int .i64 0, .int .i64 0, .int .i64 0, .bool false, .int .i64 0, .int .i64 0, .slice none 0 0, .slice none 0 0] 31)).alloc (.cells #[.int .i64 4096] 3)).heap.size = w.heap.size + 3 := by simp
  have HCALL := Lib.hid (HN false _ 4096 (fun b => w.heap.size ≤ b) _ (w.heap.size + 1 + 1) (RdT1F.to (agree_below hb3 hb3.size) (fun i h1 h2 => h2) (fun i h1 h2 => h2) _ (rdT1F_of _ HRD.out)) (by show _ ≤ _; omega) y2 (by omega) (by decide))
  rw [← hrr] at HCALL
  have HB3 := Lib.hid hb3
  have HY1 := Lib.hid y1
  have HSZ := Lib.hid hsz
  clear hb3 y1 y2 hsz HN hrr hok hls hts hn hd hc
  unfold cellsP at HCALL ⊢
  simp only at HCALL ⊢
  go_enter Try.func24, Try.ntmps24
  go_wp2_with fail
  refine HCALL.out.mono ?_
  rintro e w3 ⟨hret, L3, g1, g2, g3, g4⟩
  have HB := Lib.hid (HB3.out.grown g4 HB3.out.size (fun k e => by cases e; omega))
  have hrb : w3.heap[w.heap.size + 1]? = some (.cells #[.int .i64 0, .int .i64 0, .int .i64 0, .bool false, .int .i64 0, .int .i64 0, .slice none 0 0, .slice none 0 0] 31 (0, 0)) := (g4.block _ (by rw [HSZ.out]; omega) (fun e => by have := Option.some.inj e; omega)).trans HY1.out
  have HS3 := Lib.hid (show w.heap.size + 3 ≤ w3.heap.size by have := g4.size; rw [HSZ.out] at this; exact this)
  obtain ⟨RB, hRB⟩ : ∃ RB, RB = w.heap.size + 1 := ⟨_, rfl⟩
  rw [← hRB] at hrb ⊢
  have HRB := Lib.hid hRB
  clear g1 g2 g3 g4 hRB
  cases r with
  | none =>
    obtain rfl : e = .returned (.tuple #[.slice none 0 0, .bool false]) := hret
    have HX := Lib.hid hrb
    have zc0 : w3.cell? ⟨RB, 0, none⟩ = some (.int .i64 0) := by rw [cell_of_row w3 RB 0 _ _ _ hrb]; rfl
    have zf0 : w3.frozen? ⟨RB, 0, none⟩ = false := frozen_of_row w3 RB 0 _ _ hrb
    have zc1 : w3.cell? ⟨RB, 1, none⟩ = some (.int .i64 0) := by rw [cell_of_row w3 RB 1 _ _ _ hrb]; rfl
    have zf1 : w3.frozen? ⟨RB, 1, none⟩ = false := frozen_of_row w3 RB 1 _ _ hrb
    have zc2 : w3.cell? ⟨RB, 2, none⟩ = some (.int .i64 0) := by rw [cell_of_row w3 RB 2 _ _ _ hrb]; rfl
    have zf2 : w3.frozen? ⟨RB, 2, none⟩ = false := frozen_of_row w3 RB 2 _ _ hrb
    have zc3 : w3.cell? ⟨RB, 3, none⟩ = some (.bool false) := by rw [cell_of_row w3 RB 3 _ _ _ hrb]; rfl
    have zf3 : w3.frozen? ⟨RB, 3, none⟩ = false := frozen_of_row w3 RB 3 _ _ hrb
    have zc4 : w3.cell? ⟨RB, 4, none⟩ = some (.int .i64 0) := by rw [cell_of_row w3 RB 4 _ _ _ hrb]; rfl
    have zf4 : w3.frozen? ⟨RB, 4, none⟩ = false := frozen_of_row w3 RB 4 _ _ hrb
    have zc5 : w3.cell? ⟨RB, 5, none⟩ = some (.int .i64 0) := by rw [cell_of_row w3 RB 5 _ _ _ hrb]; rfl
    have zf5 : w3.frozen? ⟨RB, 5, none⟩ = false := frozen_of_row w3 RB 5 _ _ hrb
    have zc6 : w3.cell? ⟨RB, 6, none⟩ = some (.slice none 0 0) := by rw [cell_of_row w3 RB 6 _ _ _ hrb]; rfl
    have zf6 : w3.frozen? ⟨RB, 6, none⟩ = false := frozen_of_row w3 RB 6 _ _ hrb
    have zc7 : w3.cell? ⟨RB, 7, none⟩ = some (.slice none 0 0) := by rw [cell_of_row w3 RB 7 _ _ _ hrb]; rfl
    have zf7 : w3.frozen? ⟨RB, 7, none⟩ = false := frozen_of_row w3 RB 7 _ _ hrb
    clear hrb
    go_wp2_with fail
    refine bodyPost_ret (results_cell_tmp rfl _ _ RB _ _ (0, 0) _ _ rfl rfl (eight_heap HX.out) Try.underlying31 rfl infoPred8) rfl ?_
    have hgs : ∀ i u (wx : World), Below w.heap.size w wx → Below w.heap.size w (wx.setCell ⟨RB, i, none⟩ u) := fun i u wx h => h.setCell (p := ⟨RB, i, none⟩) (by show _ ≤ RB; rw [HRB.out]; omega) _
    exact ⟨by rw [HT.out]; exact rfl, hgs _ _ _ (hgs _ _ _ (hgs _ _ _ (hgs _ _ _ (hgs _ _ _ (hgs _ _ _ (hgs _ _ _ (hgs _ _ _ HB.out)))))))⟩
  | some a =>
    obtain ⟨v2, rfl, hv2⟩ : ∃ v, e = .returned (.tuple #[v, .bool true]) ∧ RdNF _ w3 v a := hret
    obtain ⟨ya, yc, rfl⟩ := rdNF_shape hv2
    obtain ⟨n, hN⟩ : ∃ n, n = a.length := ⟨_, rfl⟩
    rw [← hN] at hv2 ⊢
    have HN := Lib.hid hN
    have hn32 : n ≤ 32 := by rw [hN]; exact (HLF.out a rfl).2.1
    have HV2 := Lib.hid hv2
    have HX := Lib.hid hrb
    clear hN hv2 hrb
    go_wp2_with fail
    obtain ⟨W4, hW4⟩ : ∃ W4 : World, W4 = w3.alloc (.cells #[.int .i64 5, .int .i64 0, .int .i64 0, .bool false, .int .i64 0, .int .i64 0, .slice none 0 0, .slice none 0 0] 31) := ⟨_, rfl⟩
    rw [← hW4]
    have hp4 : W4.heap[w3.heap.size]? = some (.cells #[.int .i64 5, .int .i64 0, .int .i64 0, .bool false, .int .i64 0, .int .i64 0, .slice none 0 0, .slice none 0 0] 31 (0, 0)) := by rw [hW4]; exact heap_alloc_new w3 _
    have hs4 : W4.heap.size = w3.heap.size + 1 := by rw [hW4]; simp
    have hag4 : Agree (fun b => w3.heap.size ≤ b) w3 W4 := by rw [hW4]; exact agree_alloc _ _ _
    have HX4 := Lib.hid ((show W4.heap[RB]? = w3.heap[RB]? by rw [hW4]; exact heap_alloc_old w3 _ (by rw [HRB.out]; have := HS3.out; omega)).trans HX.out)
    have HB4 := Lib.hid (show Below w.heap.size w W4 by rw [hW4]; exact HB.out.alloc HB.out.size _)
    obtain ⟨PB, hPB⟩ : ∃ PB, PB = w3.heap.size := ⟨_, rfl⟩
    rw [← hPB] at hp4 hs4 hag4 ⊢
    have HPB := Lib.hid hPB
    have HP4 := Lib.hid hp4
    have HS4 := Lib.hid hs4
    have HAG4 := Lib.hid hag4
    have HRP := Lib.hid (show RB + 2 ≤ PB by rw [HRB.out, hPB]; have := HS3.out; omega)
    have HWP := Lib.hid (show w.heap.size + 3 ≤ PB by rw [hPB]; exact HS3.out)
    clear hW4 hp4 hs4 hag4 hPB
    go_loopw [21] (fun i wr => ∃ (q : Nat) (vo : Option Addr) (vc : Nat) (css : List (List Value)), q ≤ n ∧ i = .int .i64 (q : Int) ∧ wr.heap[RB]? = some (.cells #[.int .i64 0, .int .i64 0, .int .i64 0, .bool false, .int .i64 0, .int .i64 0, .slice none 0 0, .slice none 0 0] 31 (0, 0)) ∧ wr.heap[PB]? = some (.cells #[.int .i64 5, .int .i64 0, .int .i64 0, .bool false, .int .i64 0, .int .i64 0, .slice none 0 0, .slice vo q vc] 31 (0, 0)) ∧ css.length = q ∧ wr.ownsRow (PB + 1) 31 8 (.slice vo q vc) q css.flatten ∧ Free (fun b => b = PB ∨ (Value.slice vo q vc).ownBlock = some b) wr (fun w' => RdAs (PB + 1) w' ((a.take q).map fun x => .mk 4 0 0 zeroV x) css) ∧ PB + 1 ≤ wr.heap.size ∧ Agree (fun b => PB ≤ b) w3 wr ∧ Below w.heap.size w wr) (fun i _ => n - (intOf i).toNat)
    case atStart => exact ⟨0, none, 0, [], Nat.zero_le _, rfl, HX4.out, HP4.out, rfl, World.ownsRow_nil .., fun w' _ => by simp [RdAs], by rw [HS4.out]; exact Nat.le_refl _, HAG4.out, HB4.out⟩
    case round =>
      obtain ⟨q, vo, vc, css1, hq, rfl, hx, hp, hcl, hown, hel, hsz, hag, hbel⟩ := hrel
      obtain ⟨wo, rfl⟩ : ∃ wo : World, wo = wr := ⟨_, rfl⟩
      have HXW := Lib.hid hx
      have HPW := Lib.hid hp
      have HCL := Lib.hid hcl
      have HO := Lib.hid hown
      have HE := Lib.hid hel
      have HZ := Lib.hid hsz
      have HAG := Lib.hid hag
      have HBW := Lib.hid hbel
      have hcp : wo.cell? ⟨PB, 7, none⟩ = some (.slice vo q vc) := by rw [cell_of_row wo _ 7 _ _ _ hp]; rfl
      have hfp : wo.frozen? ⟨PB, 7, none⟩ = false := frozen_of_row wo _ 7 _ _ hp
      clear hown hel hbel hsz hx hp hcl hag
      by_cases hlt : q < n
      · obtain ⟨x, hxa⟩ : ∃ x, a[q]? = some x := ⟨_, List.getElem?_eq_getElem (by rw [← HN.out]; exact hlt)⟩
        have HXA := Lib.hid hxa
        have hv3 := HV2.out.to (Y := fun _ => False) HAG.out (fun i h1 h2 => by rw [HPB.out] at h2; omega) (fun i h1 h2 => h2.elim)
        obtain ⟨xb, xo, xa, xc, rfl, hxc, css2, hfx⟩ := hv3.at hxa
        obtain ⟨lx, hlx⟩ : ∃ lx, lx = x.length := ⟨_, rfl⟩
        rw [← hlx] at hxc hfx
        have hx32 := (HLF.out a rfl).2.2 x (List.mem_of_getElem? hxa)
        have hpo : ∀ (i : Nat) (t : Pt), x[i]? = some t → PredOK t := fun i t ht => by
          have h := (HLF.out a rfl).1 x (List.mem_of_getElem? hxa) t (List.mem_of_getElem? ht)
          unfold LeafN at h
          exact fpred_any t (by omega) (by omega)
        have HCP := Lib.hid (show ∀ W, Below wo.heap.size wo W → Calls Try.prog 58 #[.slice xa lx xc] W fun e w' => ∃ ls' css', e = .returned ls' ∧ RdSK W.heap.size w' 8 ls' css' ∧ RdAs W.heap.size w' x css' ∧ Below W.heap.size W w' from fun W hW => by
          have h1 := hfx W ⟨hW.os, hW.tape, hW.output, hW.size, fun i hi _ => hW.block i hi⟩
          exact preds_any x (by omega) hpo _ css2 W h1.1 h1.2)
        clear hxa hv3 hfx hlx hx32 hpo
        have hltb : decide ((q : Int) < (n : Int)) = true := by rw [decide_eq_true_eq]; omega
        have HOF := Lib.hid (show ∀ i, i < PB + 1 → (Value.slice vo q vc).ownBlock ≠ some i from fun i h e => by have := own_base HO.out i e; omega)
        have HOL := Lib.hid (fun g h => (HO.out.lt g h).2)
        go_upto_region 9 with (fail)
        go_region_law
          (first
           | (go_simp; go_at_call 58; refine (HCP.out _ ?_).mono ?_; (exact below_drw _ _); rintro e w2 ⟨ls', css', rfl, hls', has', hb2⟩; obtain ⟨la, lc, rfl⟩ := rdS_shape hls'.rd; have HLS2 := Lib.hid hls'; have HAS2 := Lib.hid has'; have HB2 := Lib.hid (show Below wo.heap.size wo w2 from (below_drw _ wo).trans hb2); have dp2 : w2.cell? ⟨PB, 7, none⟩ = some (.slice vo q vc) := (HB2.out.cell (World.block_lt_of_cell? _ _ hcp)).trans hcp; have dp3 := fun o => Lib.cell?_alloc_some (W := w2) o dp2; clear hls' has' hb2)
           | (refine step_append_k elmPred (by rfl) _ _ (by rfl) (PB + 1) (.slice vo q vc) q css1.flatten (by rfl) ((ownsRow_agree (X := fun _ => False) HO.out ⟨HB2.out.os, HB2.out.tape, HB2.out.output, HB2.out.size, fun i hi _ => HB2.out.block i hi⟩ (fun _ _ h => h)).alloc _) _ [cellsP 4 0 0 zeroV (.slice none 0 0) (.slice la css'.length lc)] (by rfl) (rdS_lit w2 _ _ 8 rfl) (fun t ht => by rw [List.mem_singleton.1 ht]; exact ⟨rfl, by simp [cellsP, Value.oneCell']⟩) (by simp; omega) (by have h1 := HB2.out.size; have h2 := HZ.out; simp; omega) (q + 1) rfl ?_; intro ao4 cap4 w4 hown4 hgrow4 hnew4; have HO4 := Lib.hid hown4; have HG4 := Lib.hid hgrow4; have HN4 := Lib.hid hnew4; have hp4 : w4.heap[PB]? = some (.cells #[.int .i64 5, .int .i64 0, .int .i64 0, .bool false, .int .i64 0, .int .i64 0, .slice none 0 0, .slice vo q vc] 31 (0, 0)) := (hgrow4.block PB (by have h1 := HB2.out.size; have h2 := HZ.out; simp; omega) (fun h => HOF.out PB (by omega) h.symm)).trans ((heap_alloc_old w2 _ (by have h1 := HB2.out.size; have h2 := HZ.out; omega)).trans ((HB2.out.block PB (by have h2 := HZ.out; omega)).trans HPW.out)); have HP4W := Lib.hid hp4; have hc4 : w4.cell? ⟨PB, 7, none⟩ = some (.slice vo q vc) := by rw [cell_of_row w4 _ 7 _ _ _ hp4]; rfl
              have hf4 : w4.frozen? ⟨PB, 7, none⟩ = false := frozen_of_row w4 _ 7 _ _ hp4
              clear hown4 hgrow4 hnew4 hp4))
        all_goals
          go_wp2_with fail
          go_roundw
          case rel =>
            have hz := HZ.out
            have hs2 := HB2.out.size
            have hsa : (w2.alloc (.cells #[.int .i64 4, .int .i64 0, .int .i64 0, .bool false, .int .i64 0, .int .i64 0, .slice none 0 0, .slice la css'.length lc] 31)).heap.size = w2.heap.size + 1 := by simp
            have hag2 : Agree (fun _ => False) wo w2 := ⟨HB2.out.os, HB2.out.tape, HB2.out.output, HB2.out.size, fun i hi _ => HB2.out.block i hi⟩
            have hagx : Agree (fun b => b = PB ∨ (Value.slice vo q vc).ownBlock = some b) w2 (w4.setCell ⟨PB, 7, none⟩ (.slice ao4 (q + 1) cap4)) :=
              ((agree_alloc _ w2 _).thenGrown HG4.out fun i _ h => .inr h).set ⟨PB, 7, none⟩ _ (.inl (.inl rfl))
            have hag5 : Agree (fun b => b = PB ∨ (Value.slice vo q vc).ownBlock = some b) wo (w4.setCell ⟨PB, 7, none⟩ (.slice ao4 (q + 1) cap4)) := (hag2.mono fun _ _ h => h.elim).trans hagx
            have hnb : ∀ b, (Value.slice ao4 (q + 1) cap4).ownBlock = some b → b < w2.heap.size → (Value.slice vo q vc).ownBlock = some b := fun b h1 h2 => (HN4.out b h1).elim id fun h => by omega
            have hnp : ∀ b, (Value.slice ao4 (q + 1) cap4).ownBlock = some b → PB + 1 ≤ b := fun b h => own_base HO4.out b h
            refine ⟨q + 1, ao4, cap4, css1 ++ [cellsP 4 0 0 zeroV (.slice none 0 0) (.slice la css'.length lc)], by omega, by go_num, ?_, ?_, ?_, ?_, ?_, ?_, ?_, ?_⟩
            · exact (hag5.block RB (by have := HRP.out; omega) (fun h => h.elim (fun h => by have := HRP.out; omega) fun h => HOF.out RB (by have := HRP.out; omega) h)).trans HXW.out
            · exact heap_setCell_same w4 _ 7 _ _ _ HP4W.out
            · rw [List.length_append, HCL.out]; rfl
            · have h1 := ownsRow_agree HO4.out (agree_set (fun b => b = PB) w4 ⟨PB, 7, none⟩ (.slice ao4 (q + 1) cap4) rfl) (fun b hb h => by have := hnp b hb; omega)
              rw [List.flatten_append]
              exact h1
            · have e1 : ((a.take (q + 1)).map fun x => Pt.mk 4 0 0 zeroV x) = ((a.take q).map fun x => Pt.mk 4 0 0 zeroV x) ++ [Pt.mk 4 0 0 zeroV x] := by rw [List.take_add_one, HXA.out, List.map_append]; rfl
              rw [e1]
              intro w' ha
              refine RdAs.snoc ?_ (HE.out w' (hag5.then ha fun i hi h => ?_))
              · have hab : Above wo.heap.size w2 w' := fun b h1 h2 => (ha.block b (Nat.lt_of_lt_of_le h2 hagx.size) fun h => h.elim (fun h => by omega) fun h => by have := HOL.out b (hnb b h h2); omega).trans (hagx.block b h2 fun h => h.elim (fun h => by omega) fun h => by have := HOL.out b h; omega)
                have hdz : wo.drew.heap.size = wo.heap.size := rfl
                unfold RdA1
                exact ⟨.slice none 0 0, .slice la css'.length lc, css', rfl, ⟨⟨none, 0, rfl, ⟨fun _ => rfl, by simp [zeroV]⟩, fun h => absurd h (by simp [zeroV])⟩, fun x hx => by simp [zeroV] at hx⟩, HLS2.out.above hab (by omega), RdAs.above hab (by omega) _ HAS2.out⟩
              · rcases h with h | h
                · exact .inl h
                · exact .inr (hnb i h (by omega))
            · have := hag5.size; omega
            · exact HAG.out.then hag5 fun i hi h => h.elim (fun h => by omega) fun h => by have := own_base HO.out i h; omega
            · exact HBW.out.trans (hag5.below (fun i hi h => h.elim (fun h => by have := HWP.out; omega) fun h => by have := own_base HO.out i h; have := HWP.out; omega) HBW.out.size)
          case measure => simp [intOf]; omega
      · have hqn : q = n := by omega
        have hltb : decide ((q : Int) < (n : Int)) = false := by rw [decide_eq_false_iff_not]; omega
        have htk : a.take q = a := List.take_of_length_le (by rw [← HN.out, hqn]; exact Nat.le_refl _)
        have HE2 := Lib.hid (show Free (fun b => b = PB ∨ (Value.slice vo q vc).ownBlock = some b) wo (fun w' => RdAs (PB + 1) w' (a.map fun x => .mk 4 0 0 zeroV x) css1) by have h := HE.out; rw [htk] at h; exact h)
        have hpw := HPW.out
        have hxw := HXW.out
        have pc0 : wo.cell? ⟨PB, 0, none⟩ = some (.int .i64 5) := by rw [cell_of_row wo PB 0 _ _ _ hpw]; rfl
        have pf0 : wo.frozen? ⟨PB, 0, none⟩ = false := frozen_of_row wo PB 0 _ _ hpw
        have pc1 : wo.cell? ⟨PB, 1, none⟩ = some (.int .i64 0) := by rw [cell_of_row wo PB 1 _ _ _ hpw]; rfl
        have pf1 : wo.frozen? ⟨PB, 1, none⟩ = false := frozen_of_row wo PB 1 _ _ hpw
        have pc2 : wo.cell? ⟨PB, 2, none⟩ = some (.int .i64 0) := by rw [cell_of_row wo PB 2 _ _ _ hpw]; rfl
        have pf2 : wo.frozen? ⟨PB, 2, none⟩ = false := frozen_of_row wo PB 2 _ _ hpw
        have pc3 : wo.cell? ⟨PB, 3, none⟩ = some (.bool false) := by rw [cell_of_row wo PB 3 _ _ _ hpw]; rfl
        have pf3 : wo.frozen? ⟨PB, 3, none⟩ = false := frozen_of_row wo PB 3 _ _ hpw
        have pc4 : wo.cell? ⟨PB, 4, none⟩ = some (.int .i64 0) := by rw [cell_of_row wo PB 4 _ _ _ hpw]; rfl
        have pf4 : wo.frozen? ⟨PB, 4, none⟩ = false := frozen_of_row wo PB 4 _ _ hpw
        have pc5 : wo.cell? ⟨PB, 5, none⟩ = some (.int .i64 0) := by rw [cell_of_row wo PB 5 _ _ _ hpw]; rfl
        have pf5 : wo.frozen? ⟨PB, 5, none⟩ = false := frozen_of_row wo PB 5 _ _ hpw
        have pc6 : wo.cell? ⟨PB, 6, none⟩ = some (.slice none 0 0) := by rw [cell_of_row wo PB 6 _ _ _ hpw]; rfl
        have pf6 : wo.frozen? ⟨PB, 6, none⟩ = false := frozen_of_row wo PB 6 _ _ hpw
        have pc7 : wo.cell? ⟨PB, 7, none⟩ = some (.slice vo q vc) := by rw [cell_of_row wo PB 7 _ _ _ hpw]; rfl
        have pf7 : wo.frozen? ⟨PB, 7, none⟩ = false := frozen_of_row wo PB 7 _ _ hpw
        have zc0 : wo.cell? ⟨RB, 0, none⟩ = some (.int .i64 0) := by rw [cell_of_row wo RB 0 _ _ _ hxw]; rfl
        have zf0 : wo.frozen? ⟨RB, 0, none⟩ = false := frozen_of_row wo RB 0 _ _ hxw
        have zc1 : wo.cell? ⟨RB, 1, none⟩ = some (.int .i64 0) := by rw [cell_of_row wo RB 1 _ _ _ hxw]; rfl
        have zf1 : wo.frozen? ⟨RB, 1, none⟩ = false := frozen_of_row wo RB 1 _ _ hxw
        have zc2 : wo.cell? ⟨RB, 2, none⟩ = some (.int .i64 0) := by rw [cell_of_row wo RB 2 _ _ _ hxw]; rfl
        have zf2 : wo.frozen? ⟨RB, 2, none⟩ = false := frozen_of_row wo RB 2 _ _ hxw
        have zc3 : wo.cell? ⟨RB, 3, none⟩ = some (.bool false) := by rw [cell_of_row wo RB 3 _ _ _ hxw]; rfl
        have zf3 : wo.frozen? ⟨RB, 3, none⟩ = false := frozen_of_row wo RB 3 _ _ hxw
        have zc4 : wo.cell? ⟨RB, 4, none⟩ = some (.int .i64 0) := by rw [cell_of_row wo RB 4 _ _ _ hxw]; rfl
        have zf4 : wo.frozen? ⟨RB, 4, none⟩ = false := frozen_of_row wo RB 4 _ _ hxw
        have zc5 : wo.cell? ⟨RB, 5, none⟩ = some (.int .i64 0) := by rw [cell_of_row wo RB 5 _ _ _ hxw]; rfl
        have zf5 : wo.frozen? ⟨RB, 5, none⟩ = false := frozen_of_row wo RB 5 _ _ hxw
        have zc6 : wo.cell? ⟨RB, 6, none⟩ = some (.slice none 0 0) := by rw [cell_of_row wo RB 6 _ _ _ hxw]; rfl
        have zf6 : wo.frozen? ⟨RB, 6, none⟩ = false := frozen_of_row wo RB 6 _ _ hxw
        have zc7 : wo.cell? ⟨RB, 7, none⟩ = some (.slice none 0 0) := by rw [cell_of_row wo RB 7 _ _ _ hxw]; rfl
        have zf7 : wo.frozen? ⟨RB, 7, none⟩ = false := frozen_of_row wo RB 7 _ _ hxw
        clear hpw hxw hqn htk
        go_wp2_with fail
        refine bodyPost_ret (results_cell_tmp rfl _ _ RB _ _ (0, 0) _ _ rfl rfl (eight_heap HXW.out) Try.underlying31 rfl infoPred8) rfl ?_
        have hst : ∀ i u (wx : World), Agree (fun b => b = RB) wo wx → Agree (fun b => b = RB) wo (wx.setCell ⟨RB, i, none⟩ u) := fun i u wx h => h.set ⟨RB, i, none⟩ u (.inl rfl)
        have hag8 := hst 7 (.slice vo q vc) _ (hst 6 (.slice none 0 0) _ (hst 5 (.int .i64 0) _ (hst 4 (.int .i64 0) _ (hst 3 (.bool false) _ (hst 2 (.int .i64 0) _ (hst 1 (.int .i64 0) _ (hst 0 (.int .i64 5) _ (Agree.refl _ wo))))))))
        refine ⟨?_, HBW.out.trans (hag8.below (fun i hi h => by have := HRB.out; omega) HBW.out.size)⟩
        have hRB := HRP.out
        have hWP := HWP.out
        have hab : Above (PB + 1) wo _ := agree_above hag8 (fun i h => by omega)
        rw [HT.out]
        refine ⟨cellsP 5 0 0 zeroV (.slice none 0 0) (.slice vo q vc), rfl, ?_⟩
        unfold RdA1
        have hE := HE2.out.now
        refine ⟨.slice none 0 0, .slice vo q vc, css1, rfl, ⟨⟨none, 0, rfl, ⟨fun _ => rfl, by simp [zeroV]⟩, fun h => absurd h (by simp [zeroV])⟩, fun x hx => by simp [zeroV] at hx⟩, ?_, ?_⟩
        · exact (rdSK_own HO.out HCL.out.symm (rdAs_each hE)).above hab (by omega)
        · exact RdAs.above hab (by omega) _ hE

end Go.Proofs.Ytfmkalnnpddefaa
