/-
  Contracts of layer 5: slices.Clone, CompactFunc of rows of bytes.
  Contracts of layer 5: slices.BinarySearchFunc of bytes, by bytes.Compare.
  Contracts of layer 5: slices.SortFunc of rows of bytes, by bytes.Compare.
  Contracts of layer 5: what the coder of bytes tells by a dictionary.
-/
import Derived.Test.YtjcmekhamohbnaaBcole
import Derived.Test.YtjcmekhamohbnaaIcoli
import Derived.Test.YtjcmekhamohbnaaIcolp
namespace Go.Proofs.Ytjcmekhamohbnaa.Bc
set_option linter.unusedVariables false
set_option linter.unusedSimpArgs false
open Go.RowKit

def compQ (xs : List By) : Nat → List By
  | 0 => []
  | q + 1 => match xs[q]? with
    | none => compQ xs q
    | some z => if 0 < q ∧ xs[q - 1]? = some z then compQ xs q else compQ xs q ++ [z]
theorem compQ_same {xs : List By} {q : Nat} {z : By} (hz : xs[q]? = some z) (hq : 0 < q) (h : xs[q - 1]? = some z) : compQ xs (q + 1) = compQ xs q := by
  rw [compQ, hz]
  simp only
  rw [if_pos ⟨hq, h⟩]
theorem compQ_new {xs : List By} {q : Nat} {z : By} (hz : xs[q]? = some z) (h : q = 0 ∨ xs[q - 1]? ≠ some z) : compQ xs (q + 1) = compQ xs q ++ [z] := by
  rw [compQ, hz]
  simp only
  rw [if_neg]
  rintro ⟨h1, h2⟩
  rcases h with h | h
  · omega
  · exact h h2
theorem compQ_ok {xs : List By} (hs : ∀ (i : Nat) (a b : By), xs[i]? = some a → xs[i + 1]? = some b → ¬ ltB b a) : ∀ q, q ≤ xs.length → (compQ xs q).Pairwise ltB ∧ (∀ z, z ∈ compQ xs q ↔ z ∈ xs.take q) ∧ (0 < q → (compQ xs q).getLast? = xs[q - 1]?)
  | 0, _ => ⟨List.Pairwise.nil, fun z => by simp [compQ], fun h => by omega⟩
  | q + 1, hq => by
    obtain ⟨h1, h2, h3⟩ := compQ_ok hs q (by omega)
    obtain ⟨z, hz⟩ : ∃ z, xs[q]? = some z := ⟨_, List.getElem?_eq_getElem (by omega)⟩
    have htk : xs.take (q + 1) = xs.take q ++ [z] := by rw [List.take_add_one, hz]; rfl
    by_cases he : 0 < q ∧ xs[q - 1]? = some z
    · rw [compQ_same hz he.1 he.2, htk]
      refine ⟨h1, fun y => ?_, fun _ => ?_⟩
      · rw [h2, List.mem_append, List.mem_singleton]
        refine ⟨.inl, fun h => h.elim id fun e => ?_⟩
        rw [e]
        refine List.mem_of_getElem? (i := q - 1) ?_
        rw [List.getElem?_take, if_pos (by omega)]
        exact he.2
      · rw [h3 he.1, he.2, show q + 1 - 1 = q by omega, hz]
    · rw [compQ_new hz (by
        rcases Nat.eq_zero_or_pos q with h | h
        · exact .inl h
        · exact .inr fun e => he ⟨h, e⟩), htk]
      refine ⟨?_, fun y => ?_, fun _ => ?_⟩
      · rw [List.pairwise_append]
        refine ⟨h1, by simp, fun a ha b hb => ?_⟩
        rw [List.mem_singleton] at hb
        subst hb
        have hqp : 0 < q := by
          rcases Nat.eq_zero_or_pos q with h | h
          · subst h; simp [compQ] at ha
          · exact h
        obtain ⟨y, hy⟩ : ∃ y, xs[q - 1]? = some y := ⟨_, List.getElem?_eq_getElem (by omega)⟩
        have hyb : ¬ ltB b y := hs (q - 1) y b hy (by rw [show q - 1 + 1 = q by omega]; exact hz)
        have hne : y ≠ b := fun e => he ⟨hqp, by rw [hy, e]⟩
        have hlast := h3 hqp
        rw [hy] at hlast
        have hay : ¬ ltB y a := by
          obtain ⟨i, hi⟩ := List.getElem?_of_mem ha
          rw [List.getLast?_eq_getElem?] at hlast
          have hil := (List.getElem?_eq_some_iff.1 hi).1
          rcases Nat.lt_or_ge i ((compQ xs q).length - 1) with h | h
          · exact fun h3 => ltB_not (up_at h1 h hi hlast) h3
          · have : i = (compQ xs q).length - 1 := by omega
            rw [this, hlast] at hi
            have := Option.some.inj hi
            subst this
            exact ltB_irr _
        exact ltB_le_trans hay ((ltB_or hne).resolve_right hyb)
      · rw [List.mem_append, List.mem_append, h2]
      · rw [List.getLast?_append, show q + 1 - 1 = q by omega, hz]
        rfl
theorem compQ_words {l xs : List By} (hp : ∀ z, z ∈ xs ↔ z ∈ l) (hs : ∀ (i : Nat) (a b : By), xs[i]? = some a → xs[i + 1]? = some b → ¬ ltB b a) : compQ xs xs.length = wordsT l := by
  obtain ⟨h1, h2, _⟩ := compQ_ok hs xs.length (Nat.le_refl _)
  refine up_ext h1 (wordsT_up l) fun z => ?_
  rw [h2, List.take_length, hp, wordsT_mem]

def compP (ps : Row) : Nat → Row
  | 0 => []
  | q + 1 => match ps[q]? with
    | none => compP ps q
    | some p => if 0 < q ∧ (xs ps)[q - 1]? = some p.2 then compP ps q else compP ps q ++ [p]
theorem compP_same {ps : Row} {q : Nat} {p : Value × By} (hz : ps[q]? = some p) (hq : 0 < q) (h : (xs ps)[q - 1]? = some p.2) : compP ps (q + 1) = compP ps q := by
  rw [compP, hz]
  simp only
  rw [if_pos ⟨hq, h⟩]
theorem compP_new {ps : Row} {q : Nat} {p : Value × By} (hz : ps[q]? = some p) (h : q = 0 ∨ (xs ps)[q - 1]? ≠ some p.2) : compP ps (q + 1) = compP ps q ++ [p] := by
  rw [compP, hz]
  simp only
  rw [if_neg]
  rintro ⟨h1, h2⟩
  rcases h with h | h
  · omega
  · exact h h2
theorem xs_compP (ps : Row) : ∀ q, q ≤ ps.length → xs (compP ps q) = compQ (xs ps) q
  | 0, _ => rfl
  | q + 1, h => by
    have ih := xs_compP ps q (by omega)
    obtain ⟨p, hp⟩ : ∃ p, ps[q]? = some p := ⟨_, List.getElem?_eq_getElem (by omega)⟩
    by_cases he : 0 < q ∧ (xs ps)[q - 1]? = some p.2
    · rw [compP_same hp he.1 he.2, compQ_same (xs_at hp) he.1 he.2, ih]
    · have h1 : q = 0 ∨ (xs ps)[q - 1]? ≠ some p.2 := by
        rcases Nat.eq_zero_or_pos q with h | h
        · exact .inl h
        · exact .inr fun e => he ⟨h, e⟩
      rw [compP_new hp h1, compQ_new (xs_at hp) h1, ← ih]
      obtain ⟨u, x⟩ := p
      exact xs_snoc _ _ _
theorem compP_mem (ps : Row) : ∀ q p, p ∈ compP ps q → p ∈ ps
  | 0, p, h => by simp [compP] at h
  | q + 1, p, h => by
    rw [compP] at h
    split at h
    · exact compP_mem ps q p h
    · rename_i z hz
      split at h
      · exact compP_mem ps q p h
      · rcases List.mem_append.1 h with h | h
        · exact compP_mem ps q p h
        · rw [List.mem_singleton.1 h]
          exact List.mem_of_getElem? hz
theorem vs_take (ps : Row) (k : Nat) : vs (ps.take k) = (vs ps).take k := by unfold vs; rw [List.map_take]

set_option maxRecDepth 100000 in
set_option maxHeartbeats 8000000 in
theorem dcl_any (X : Nat) (v1 v2 : Value) (a b : By) (w : World) (hx : w.cell? ⟨X, 2, none⟩ = some (.func (.func 33) #[] #[])) (h1 : Rd w v1 (a.map u8v)) (h2 : Rd w v2 (b.map u8v)) (ha : Fit a) (hb : Fit b) :
    Calls Try.prog 40 #[v1, v2, .pointer (some ⟨X, 0, none⟩)] w fun e w' => e = .returned (.bool (decide (a = b))) ∧ w' = w := by
  obtain ⟨a1, c1, e1⟩ := els_shape (p := (v1, a)) h1
  obtain ⟨a2, c2, e2⟩ := els_shape (p := (v2, b)) h2
  change v1 = .slice a1 (List.length a) c1 at e1
  change v2 = .slice a2 (List.length b) c2 at e2
  subst e1
  subst e2
  by_cases hab : a = b
  · have HC := Lib.hid (bcmp_q _ _ a b 0 w (by rw [hab]; exact cmpB_self b) h1 h2 ha hb)
    have HN := Lib.hid (decide_eq_true hab)
    clear hab h1 h2 ha hb
    go_enter Try.func40, Try.ntmps40
    go_wp2_with fail
    refine HC.out.mono ?_
    rintro e w2 ⟨rfl, rfl⟩
    go_wp2_with fail
    go_ret
    exact ⟨by rw [HN.out]; rfl, rfl⟩
  · obtain ⟨cc, hcc⟩ : ∃ cc, cc = cmpB a b := ⟨_, rfl⟩
    have hcn : cc ≠ 0 := by rw [hcc]; exact cmpB_ne hab
    have hcb : (cc == 0) = false := by rw [beq_eq_false_iff_ne]; exact hcn
    have HC := Lib.hid (bcmp_q _ _ a b cc w hcc.symm h1 h2 ha hb)
    have HN := Lib.hid (show decide (a = b) = false from decide_eq_false hab)
    clear hcc hab h1 h2 ha hb
    go_enter Try.func40, Try.ntmps40
    go_wp2_with fail
    refine HC.out.mono ?_
    rintro e w2 ⟨rfl, rfl⟩
    go_wp2_with fail
    go_ret
    exact ⟨by rw [HN.out]; rfl, rfl⟩

set_option maxRecDepth 100000 in
set_option maxHeartbeats 8000000 in
theorem bsclone_any (l : Row) (lv : Value) (w : World) (hl : l.length ≤ 100000) (hr : Rd w lv (vs l)) (he : Els w l) :
    Calls Try.prog 37 #[lv] w fun e w' => ∃ v, e = .returned v ∧ OwnR w.heap.size w' v l ∧ Below w.heap.size w w' := by
  obtain ⟨ao, cap, rfl⟩ := rd_shape1 hr
  rw [len_vs] at hr ⊢
  have HR := Lib.hid hr
  rcases ao with _ | ⟨b, off, p⟩
  · obtain ⟨ao', cap', hv, hn, _⟩ := hr
    simp only [Value.slice.injEq, len_vs] at hv hn
    have hcap := hn.1 hv.1.symm
    have hl0 : l = [] := List.length_eq_zero_iff.1 (by omega)
    have hc0 : cap = 0 := by omega
    clear hv hn hcap HR
    subst hl0
    subst hc0
    have heq := fun (w' : World) => Lib.run_eql_slice_nil (P := Try.prog) w' 22 24 none 0 0 0 0 Try.underlying22
    go_enter Try.func37, Try.ntmps37
    go_wp2_with fail
    go_ret
    exact ⟨_, rfl, ownR_nil _ _, Below.refl _ _⟩
  · obtain ⟨n, hn⟩ : ∃ n, n = l.length := ⟨_, rfl⟩
    rw [← hn] at HR ⊢
    have HN := Lib.hid hn
    rw [← hn] at hl
    have HES := Lib.hid he.ones
    clear hr hn he
    have heq := fun (w' : World) => Lib.run_eql_slice_nil (P := Try.prog) w' 22 24 (some ⟨b, off, p⟩) n cap 0 0 Try.underlying22
    have HRS := Lib.hid fun (w' : World) (h : Below w.heap.size w w') => rdS_flat (HR.out.kept h)
    have HONE := Lib.hid (ones_flat HES.out)
    go_enter Try.func37, Try.ntmps37
    have hpos := HN.out
    have HOE := Lib.hid (show (w.alloc (.cells #[] 24)).ownsRow w.heap.size 24 1 (.slice (some ⟨w.heap.size, 0, none⟩) 0 0) 0 [] from World.ownsRow_lit w #[] 0 (Nat.le_refl _) (by unfold maxLen; omega) rfl)
    have HRA := Lib.hid (HRS.out _ (below_alloc w (.cells #[] 24)))
    have hszB : w.heap.size ≤ (w.alloc (.cells #[] 24)).heap.size := by simp
    clear hpos
    go_wp2_with (at_builtin; go_must (refine wpList_append_k elmR rfl _ _ rfl w.heap.size _ _ _ rfl HOE.out _ ((vs l).map fun u => [u]) rfl HRA.out HONE.out (by simp [len_vs]; have := HN.out; omega) hszB n (by have := HN.out; simp [len_vs]; omega) ?_); intro ao4 cap4 w4 hown4 hgrow4 hnew4; have HO4 := Lib.hid hown4; have HG4 := Lib.hid hgrow4; clear hown4 hgrow4 hnew4)
    go_ret
    refine ⟨_, rfl, ?_, ?_⟩
    · have h := HO4.out
      rw [flat_ones, List.nil_append] at h
      exact OwnR.of h
    · exact below_ownB (below_alloc w _) hszB (show (w.alloc (.cells #[] 24)).grownBy w4 (Value.slice (some ⟨w.heap.size, 0, none⟩) 0 0).ownBlock from HG4.out) (own_base HOE.out)

theorem zeroSl (w : World) : (zeroValue 24).run Try.prog w = .ok (.slice none 0 0) w := Try.zeroValue24 w
theorem clear_endR {base g n vc : Nat} {xs : List Value} {w0 w : World} (h : w.ownsRow base 24 1 (.slice (some ⟨g, 0, none⟩) n vc) n xs) (hg : w0.grownBy w (some g)) (m c : Nat) (hm : n + m ≤ vc) (hp : 0 < m) :
    ∃ wc, (∀ ty, (Builtin.clear_ #[22] ty #[.slice (some ⟨g, n, none⟩) m c]).run Try.prog w = .ok (.tuple #[]) wc) ∧ wc.ownsRow base 24 1 (.slice (some ⟨g, 0, none⟩) n vc) n xs ∧ w0.grownBy wc (some g) := by
  obtain ⟨cur, hc, hnc, hcm, hcl, hct, hb⟩ := own_block h
  rw [Nat.mul_one] at hcl hct
  have hfit : n + m * 1 ≤ cur.length := by rw [hcl]; omega
  refine ⟨_, fun ty => run_clear_rowK (P := Try.prog) w 22 24 ty [.slice none 0 0] _ Try.underlying22 zeroSl rfl (by simp [Value.oneCell']) g n m c cur 24 hc hfit hp, ?_, grown_trans hg (grown_setRow w g _)⟩
  have hzl : ((List.replicate m ([.slice none 0 0] : List Value)).flatten).length = m * 1 := by
    rw [flatten_len _ 1 (fun t ht => by rw [List.eq_of_mem_replicate ht]; rfl), List.length_replicate]
  refine own_of_block (setRow_heap w g cur.toArray _ _ _ hc) hnc hcm ?_ ?_ hb
  · rw [length_splice _ _ _ (by rw [hzl]; exact hfit), Nat.mul_one]; exact hcl
  · rw [Nat.mul_one, ← hct]
    unfold splice
    rw [List.take_append_of_le_length (by rw [List.length_take]; omega), List.take_take, Nat.min_self]



set_option maxRecDepth 100000 in
set_option maxHeartbeats 8000000 in
theorem bcompact_any (ps : Row) (base X : Nat) (v : Value) (w : World) (hl : ps.length ≤ 100000) (hI : ∀ x ∈ xs ps, Fit x) (hown : OwnR base w v ps) (he : ∀ w', w.grownBy w' v.ownBlock → Els w' ps) (hX : w.heap[X]? = some (.cells #[.func (.func 31) #[] #[], .func (.func 32) #[] #[], .func (.func 33) #[] #[], .func (.func 34) #[] #[]] 47 (0, 0))) (hXv : v.ownBlock ≠ some X) :
    Calls Try.prog 39 #[v, .func (.func 40) #[] #[.pointer (some ⟨X, 0, none⟩)]] w fun e w' => ∃ v', e = .returned v' ∧ OwnR base w' v' (compP ps ps.length) ∧ w.grownBy w' v.ownBlock ∧ v'.ownBlock = v.ownBlock := by
  obtain ⟨ao, cap, rfl⟩ := hown.shape
  obtain ⟨n, hn⟩ : ∃ n, n = ps.length := ⟨_, rfl⟩
  rw [← hn] at hl hXv he ⊢
  have HI := Lib.hid hI
  have HE0 := Lib.hid he
  have hown' : w.ownsRow base 24 1 (.slice ao n cap) n (vs ps) := by rw [hn]; exact hown
  have HO := Lib.hid hown'
  have HN := Lib.hid hn
  have HNX := Lib.hid (show n = (xs ps).length by rw [len_xs]; exact hn)
  by_cases h2 : n < 2
  · have h2i : (n : Int) < 2 := by omega
    have HE := Lib.hid (show compP ps n = ps from by
      rw [hn]
      match ps, hn with
      | [], _ => rfl
      | [a], _ => rfl
      | a :: b :: r, hn => simp at hn; omega)
    clear hown hown' hn he hI
    go_enter Try.func39, Try.ntmps39
    go_wp2_with fail
    go_ret
    refine ⟨_, rfl, ?_, World.grownBy.refl _ _, rfl⟩
    rw [HE.out]
    exact OwnR.of HO.out
  · have h2i : ¬ (n : Int) < 2 := by omega
    obtain ⟨g, rfl⟩ : ∃ g, ao = some ⟨g, 0, none⟩ := by
      rcases hown'.2 with ⟨_, h0⟩ | ⟨g, c, cur, h1, _⟩
      · omega
      · simp only [Value.slice.injEq] at h1; exact ⟨g, h1.1⟩
    have hXg : X ≠ g := fun e => hXv (by rw [e]; rfl)
    have hnc : n ≤ cap := by obtain ⟨_, _, h, _⟩ := own_block hown'; exact h
    have hgb : base ≤ g := own_base hown' g rfl
    have HXC := Lib.hid (show ∀ w', w.grownBy w' (some g) → w'.cell? ⟨X, 2, none⟩ = some (.func (.func 33) #[] #[]) from fun w' hg => (cod_cells ((hg.block X (Array.getElem?_eq_some_iff.1 hX).1 (fun e => hXg (Option.some.inj e))).trans hX)).2.2.1)
    clear hown hown' hn hX hXv he hI
    go_enter Try.func39, Try.ntmps39
    go_wp2_with fail
    go_loopw [5] (fun k wr => ∃ q : Nat, 1 ≤ q ∧ q ≤ n ∧ k = .int .i64 (q : Int) ∧ compP ps q = ps.take q ∧ ∃ d, wr = w.drewN d) (fun k _ => n - (intOf k).toNat)
    case atStart => exact ⟨1, Nat.le_refl _, by omega, rfl, (by
      obtain ⟨z, hz⟩ : ∃ z, ps[0]? = some z := ⟨_, List.getElem?_eq_getElem (by rw [← HN.out]; omega)⟩
      rw [compP_new hz (.inl rfl), List.take_add_one, hz]
      rfl), 0, rfl⟩
    case round =>
      obtain ⟨q, hq1, hq, rfl, hcq, d, hwr⟩ := hrel
      have HCQ := Lib.hid hcq
      have HGR := Lib.hid (show w.grownBy wr (some g) from by rw [hwr]; exact grown_drewN _ _ _)
      have HOR := Lib.hid (show wr.ownsRow base 24 1 (.slice (some ⟨g, 0, none⟩) n cap) n (vs ps) from by rw [hwr]; exact HO.out)
      have HWR := Lib.hid hwr
      clear hcq hwr
      by_cases hlt : q < n
      · have hlti : (q : Int) < (n : Int) := by omega
        have hq0 : (0 : Int) ≤ (q : Int) := by omega
        have hqm : IntKind.i64.wrap ((q : Int) - 1) = ((q - 1 : Nat) : Int) := by rw [IntWalk.i64_in _ (by omega)]; omega
        have hqm2 : (((q - 1 : Nat) : Int)).toNat = q - 1 := by omega
        have hqm3 : (0 : Int) ≤ ((q - 1 : Nat) : Int) := by omega
        have hqm4 : ((q - 1 : Nat) : Int) < (n : Int) := by omega
        have hqm5 : (q : Int) - 1 = ((q - 1 : Nat) : Int) := by omega
        have hels := HE0.out wr HGR.out
        obtain ⟨za, zc, z, hzq, hze⟩ := row_at hels (q := q) (by rw [← HN.out]; exact hlt)
        obtain ⟨ya, yc, y, hyq, hye⟩ := row_at hels (q := q - 1) (by rw [← HN.out]; omega)
        have hx1 : wr.cell? ⟨g, q, none⟩ = some (.slice za (List.length z) zc) := by rw [HOR.out.cellAt q (by omega)]; unfold vs; rw [List.getElem?_map, hzq]; rfl
        have hx2 : wr.cell? ⟨g, q - 1, none⟩ = some (.slice ya (List.length y) yc) := by rw [HOR.out.cellAt (q - 1) (by omega)]; unfold vs; rw [List.getElem?_map, hyq]; rfl
        have cx := HXC.out wr HGR.out
        have HDC := Lib.hid fun nq => dcl_any X _ _ z y (wr.drewN nq) cx (hze.kept (below_draws (Below.refl _ _) nq)) (hye.kept (below_draws (Below.refl _ _) nq)) (HI.out z (List.mem_of_getElem? (xs_at hzq))) (HI.out y (List.mem_of_getElem? (xs_at hyq)))
        have HZ := Lib.hid hzq
        have HY := Lib.hid (xs_at hyq)
        clear hzq hyq hze hye hels
        by_cases hzy : z = y
        · have HZY := Lib.hid hzy
          rw [decide_eq_true hzy] at HDC
          clear hzy
          go_upto_region 6 with (fail)
          go_quiet ((go_at_call 40; exact Calls.quiet_of_same (HDC.out _)))
          have hcq1 : ¬ (cap = q) := by omega
          have hcq2 : (cap == q) = false := by rw [beq_eq_false_iff_ne]; exact hcq1
          have HGR1 := Lib.hid (show w.grownBy (wr.drewN nq) (some g) from grown_trans HGR.out (grown_drewN _ _ _))
          have HOR1 := Lib.hid (show (wr.drewN nq).ownsRow base 24 1 (.slice (some ⟨g, 0, none⟩) n cap) n (vs ps) from HOR.out)
          have HC1 := Lib.hid (show compP ps (q + 1) = ps.take q from by rw [compP_same HZ.out (by omega) (by rw [HY.out, HZY.out]), HCQ.out])
          have hql := Nat.le_of_lt hlt
          have hqi : (q : Int) ≤ (n : Int) := by omega
          clear hx1 hx2 cx HDC HGR HOR HWR
          obtain ⟨W3, hW3⟩ := name_wg HGR1.out
          rw [← hW3] at HGR1 HOR1 ⊢
          clear hW3
          go_wp2_with fail
          go_loopw [5, 7] (fun k k2 wr => ∃ (K J : Nat) (ys : Row), 1 ≤ J ∧ q + J ≤ n ∧ k = .int .i64 (K : Int) ∧ k2 = .int .i64 (J : Int) ∧ K + 1 ≤ q + J ∧ ys.length = n ∧ ys.take K = compP ps (q + J) ∧ (∀ j, q + J ≤ j + 1 → ys[j]? = ps[j]?) ∧ wr.ownsRow base 24 1 (.slice (some ⟨g, 0, none⟩) n cap) n (vs ys) ∧ w.grownBy wr (some g)) (fun _ k2 _ => n - (intOf k2).toNat)
          case atStart => exact ⟨q, 1, ps, Nat.le_refl _, by omega, rfl, rfl, Nat.le_refl _, HN.out.symm, HC1.out.symm, (fun j _ => rfl), HOR1.out, HGR1.out⟩
          case round =>
            obtain ⟨K, J, ys, hJ1, hJn, rfl, rfl, hKJ, hyl, hyt, hyj, hown3, hgr3⟩ := hrel
            have HYL := Lib.hid hyl
            have HYT := Lib.hid hyt
            have HYJ := Lib.hid hyj
            have HO3 := Lib.hid hown3
            have HG3 := Lib.hid hgr3
            clear hyl hyt hyj hown3 hgr3
            by_cases hlt2 : J < n - q
            · have hsub : (((n - q : Nat)) : Int) = (n : Int) - (q : Int) := by omega
              have hlt2i : (J : Int) < ((n - q : Nat) : Int) := by omega
              have hJ0 : (0 : Int) ≤ (J : Int) := by omega
              have hJm : IntKind.i64.wrap ((J : Int) - 1) = ((J - 1 : Nat) : Int) := by rw [IntWalk.i64_in _ (by omega)]; omega
              have hJm2 : (((J - 1 : Nat) : Int)).toNat = J - 1 := by omega
              have hJm3 : (0 : Int) ≤ ((J - 1 : Nat) : Int) := by omega
              have hJm4 : ((J - 1 : Nat) : Int) < ((n - q : Nat) : Int) := by omega
              have hJm5 : (J : Int) - 1 = ((J - 1 : Nat) : Int) := by omega
              have hK0 : (0 : Int) ≤ (K : Int) := by omega
              have hKn : (K : Int) < (n : Int) := by omega
              have hels := HE0.out wr HG3.out
              obtain ⟨za, zc, z1, hz1, hze⟩ := row_at hels (q := q + J) (by rw [← HN.out]; omega)
              obtain ⟨ya, yc, y1, hy1, hye⟩ := row_at hels (q := q + J - 1) (by rw [← HN.out]; omega)
              have hx1 : wr.cell? ⟨g, q + J, none⟩ = some (.slice za (List.length z1) zc) := by rw [HO3.out.cellAt (q + J) (by omega)]; unfold vs; rw [List.getElem?_map, HYJ.out _ (by omega), hz1]; rfl
              have hx2 : wr.cell? ⟨g, q + (J - 1), none⟩ = some (.slice ya (List.length y1) yc) := by rw [HO3.out.cellAt (q + (J - 1)) (by omega)]; unfold vs; rw [List.getElem?_map, HYJ.out _ (by omega), show q + (J - 1) = q + J - 1 by omega, hy1]; rfl
              have cx := HXC.out wr HG3.out
              have HDC := Lib.hid fun nq => dcl_any X _ _ z1 y1 (wr.drewN nq) cx (hze.kept (below_draws (Below.refl _ _) nq)) (hye.kept (below_draws (Below.refl _ _) nq)) (HI.out z1 (List.mem_of_getElem? (xs_at hz1))) (HI.out y1 (List.mem_of_getElem? (xs_at hy1)))
              have HZ1 := Lib.hid hz1
              have HY1 := Lib.hid (xs_at hy1)
              clear hz1 hy1 hze hye hels
              by_cases hzy1 : z1 = y1
              · have HZY := Lib.hid hzy1
                rw [decide_eq_true hzy1] at HDC
                clear hzy1
                go_upto_region 11 with (fail)
                go_quiet ((go_at_call 40; exact Calls.quiet_of_same (HDC.out _)))
                go_wp2_with fail
                go_roundw
                case rel => exact ⟨K, J + 1, ys, by omega, by omega, rfl, by go_num, by omega, HYL.out, (by rw [← Nat.add_assoc, compP_same HZ1.out (by omega) (by rw [HY1.out, HZY.out])]; exact HYT.out), (fun j hj => HYJ.out j (by omega)), HO3.out, grown_trans HG3.out (grown_drewN _ _ _)⟩
                case measure => simp [intOf]; omega
              · have HZY := Lib.hid hzy1
                rw [decide_eq_false hzy1] at HDC
                clear hzy1
                have hcK : ∃ u, wr.cell? ⟨g, K, none⟩ = some u := by
                  rw [HO3.out.cellAt K (by omega)]
                  exact ⟨_, List.getElem?_eq_getElem (by rw [len_vs, HYL.out]; omega)⟩
                obtain ⟨uK, hcK2⟩ := hcK
                have hfK := HO3.out.frozenAt K
                have hst := fun nq => World.ownsRow.stored (show (wr.drewN nq).ownsRow base 24 1 (.slice (some ⟨g, 0, none⟩) n cap) n (vs ys) from HO3.out) K (.slice za (List.length z1) zc)
                have HST := Lib.hid hst
                clear hst
                go_upto_region 11 with (fail)
                go_quiet ((go_at_call 40; exact Calls.quiet_of_same (HDC.out _)))
                go_wp2_with fail
                go_roundw
                case rel =>
                  have hkl : K < ys.length := by rw [HYL.out]; omega
                  refine ⟨K + 1, J + 1, ys.set K (.slice za (List.length z1) zc, z1), by omega, by omega, by go_num, by go_num, by omega, by rw [List.length_set]; exact HYL.out, ?_, fun j hj => ?_, ?_, ?_⟩
                  · rw [← Nat.add_assoc, compP_new HZ1.out (.inr (by rw [HY1.out]; intro h; exact HZY.out (Option.some.inj h).symm)), ← HYT.out, List.take_add_one, List.take_set, List.getElem?_set, if_pos rfl, if_pos hkl, List.set_eq_of_length_le (by rw [List.length_take]; omega)]
                    rfl
                  · rw [List.getElem?_set, if_neg (by omega)]
                    exact HYJ.out j (by omega)
                  · rw [vs_set]
                    exact (HST.out _).1
                  · exact grown_trans HG3.out (grown_trans (grown_drewN _ _ _) (HST.out _).2)
                case measure => simp [intOf]; omega
            · have hJq : q + J = n := by omega
              have hsub : (((n - q : Nat)) : Int) = (n : Int) - (q : Int) := by omega
              have hlt2i : ¬ (J : Int) < ((n - q : Nat) : Int) := by omega
              have hK0 : (0 : Int) ≤ (K : Int) := by omega
              have hKn : (K : Int) ≤ (n : Int) := by omega
              have hKn2 : K < n := by omega
              have hcK1 : ¬ (cap = K) := by omega
              have hcK2 : (cap == K) = false := by rw [beq_eq_false_iff_ne]; exact hcK1
              have hKc : K ≤ cap := by omega
              have hKci : (K : Int) ≤ (cap : Int) := by omega
              obtain ⟨wc, hcl, hoc, hgc⟩ := clear_endR (own_take HO3.out K (by omega)) HG3.out (n - K) (cap - K) (by omega) (by omega)
              rw [Nat.mul_one, ← vs_take, HYT.out, hJq] at hoc
              have HOC := Lib.hid (OwnR.of hoc)
              have HGC := Lib.hid hgc
              have HKL := Lib.hid (show (compP ps n).length = K from by rw [← hJq, ← HYT.out, List.length_take, HYL.out]; omega)
              clear hoc hgc
              go_wp2_with fail
              go_ret
              exact ⟨_, rfl, HOC.out, HGC.out, rfl⟩
        · have HZY := Lib.hid hzy
          rw [decide_eq_false hzy] at HDC
          clear hzy
          go_upto_region 6 with (fail)
          go_quiet ((go_at_call 40; exact Calls.quiet_of_same (HDC.out _)))
          go_wp2_with fail
          go_roundw
          case rel =>
            refine ⟨q + 1, by omega, by omega, by go_num, ?_, d + nq, by rw [HWR.out, World.drewN_drewN]⟩
            rw [compP_new HZ.out (.inr (by rw [HY.out]; intro h; exact HZY.out (Option.some.inj h).symm)), HCQ.out, List.take_add_one, HZ.out]
            rfl
          case measure => simp [intOf]; omega
      · have hqn : q = n := by omega
        subst hqn
        have hlti : ¬ (q : Int) < (q : Int) := by omega
        have HE := Lib.hid (show compP ps q = ps from by rw [HCQ.out, HN.out, List.take_length])
        go_wp2_with fail
        go_ret
        refine ⟨_, rfl, ?_, HGR.out, rfl⟩
        rw [HE.out]
        exact OwnR.of HOR.out


end Go.Proofs.Ytjcmekhamohbnaa.Bc

namespace Go.Proofs.Ytjcmekhamohbnaa.Bc
set_option linter.unusedVariables false
set_option linter.unusedSimpArgs false
open Go.RowKit

set_option maxRecDepth 100000 in
set_option maxHeartbeats 8000000 in
theorem bbsearch_any (ps : Row) (x : By) (xv v : Value) (w : World) (hl : ps.length ≤ 100000) (hI : ∀ y ∈ xs ps, Fit y) (hs : (xs ps).Pairwise ltB) (hx : x ∈ xs ps) (hr : Rd w v (vs ps)) (he : Els w ps) (hxr : Rd w xv (x.map u8v)) :
    Calls Try.prog 41 #[v, xv, .func (.func 33) #[] #[]] w fun e w' => e = .returned (.tuple #[.int .i64 (placeT (xs ps) x : Nat), .bool true]) ∧ Below w.heap.size w w' := by
  obtain ⟨va, vc, rfl⟩ := rd_shape1 hr
  obtain ⟨xa, xc, e1⟩ := els_shape (p := (xv, x)) hxr
  change xv = .slice xa (List.length x) xc at e1
  subst e1
  have HXR := Lib.hid hxr
  have HE := Lib.hid he
  have HI := Lib.hid hI
  have HFX := Lib.hid (hI x hx)
  obtain ⟨n, hn⟩ : ∃ n, n = ps.length := ⟨_, rfl⟩
  rw [len_vs, ← hn] at hr ⊢
  rw [← hn] at hl
  have HN := Lib.hid hn
  have HNX := Lib.hid (show n = (xs ps).length by rw [len_xs]; exact hn)
  have HR := Lib.hid hr
  obtain ⟨p, hp⟩ : ∃ p, p = placeT (xs ps) x := ⟨_, rfl⟩
  have hpn : p < n := by rw [hp, HNX.out]; exact placeT_lt hs hx
  have HPX := Lib.hid (show (xs ps)[p]? = some x from by rw [hp]; exact placeT_get hs hx)
  have HUP := Lib.hid (fun (i j : Nat) (a b : By) (h : i < j) (ha : (xs ps)[i]? = some a) (hb : (xs ps)[j]? = some b) => up_at hs h ha hb)
  rw [← hp]
  clear hn hr hs hx hp he hI hxr
  go_enter Try.func41, Try.ntmps41
  go_wp2_with fail
  go_loopw [9, 10] (fun a c wr => ∃ i j : Nat, i ≤ p ∧ p ≤ j ∧ j ≤ n ∧ a = .int .i64 (i : Int) ∧ c = .int .i64 (j : Int) ∧ Below w.heap.size w wr) (fun a c _ => (intOf c).toNat - (intOf a).toNat)
  case atStart => exact ⟨0, n, Nat.zero_le _, by omega, Nat.le_refl _, rfl, rfl, Below.refl _ _⟩
  case round =>
    obtain ⟨i, j, hip, hpj, hjn, rfl, rfl, hb⟩ := hrel
    have HB := Lib.hid hb
    obtain ⟨b, off, rfl, hcell⟩ := (rdv_cells (HR.out.kept hb)).2 (by omega)
    by_cases hlt : i < j
    · obtain ⟨H, hH⟩ : ∃ H, H = (i + j) / 2 := ⟨_, rfl⟩
      have h1 : i ≤ H ∧ H < j := by omega
      obtain ⟨hiH, hHj⟩ := h1
      have hHn : H < n := by omega
      have hHni : (H : Int) < (n : Int) := by omega
      have hH0 : (0 : Int) ≤ (H : Int) := by omega
      have e1 : IntKind.i64.wrap ((i : Int) + (j : Int)) = (i : Int) + (j : Int) := IntWalk.i64_in _ (by omega)
      have e2 : IntKind.u64.wrap ((i : Int) + (j : Int)) = (i : Int) + (j : Int) := IntWalk.u64_in _ (by omega)
      have e3 : ((i : Int) + (j : Int)) / 2 = (H : Int) := by rw [hH]; omega
      have e4 : IntKind.i64.wrap (H : Int) = (H : Int) := IntWalk.i64_in _ (by omega)
      obtain ⟨za, zc, z, hz1, hze⟩ := row_at HE.out (q := H) (by rw [← HN.out]; exact hHn)
      have hx1 : wr.cell? ⟨b, off + H, none⟩ = some (.slice za (List.length z) zc) := hcell H _ hz1
      have HX := Lib.hid (xs_at hz1)
      have HFZ := Lib.hid (HI.out z (List.mem_of_getElem? (xs_at hz1)))
      have HZE := Lib.hid (hze.kept HB.out)
      have HXE := Lib.hid (HXR.out.kept HB.out)
      clear hz1 hcell hb hH hze
      have hij2 : (i : Int) < (j : Int) := by omega
      by_cases hc : ltB z x
      · have HCZ := Lib.hid (bcmp_q _ _ z x (-1) wr (by unfold ltB at hc; rcases cmpB_ok.tri z x with h | h | h <;> omega) HZE.out HXE.out HFZ.out HFX.out)
        have hHp : H < p := by
          rcases Nat.lt_trichotomy H p with h | h | h
          · exact h
          · have h2 := HX.out
            rw [h, HPX.out] at h2
            have := Option.some.inj h2
            subst this
            exact absurd hc (ltB_irr _)
          · exact absurd (HUP.out p H x z h HPX.out HX.out) (ltB_not hc)
        clear hc
        go_wp2_with fail
        refine HCZ.out.mono ?_
        rintro e w2 ⟨rfl, rfl⟩
        go_wp2_with fail
        go_roundw
        case rel => exact ⟨H + 1, j, by omega, hpj, hjn, by go_num, rfl, HB.out⟩
        case measure => simp [intOf]; omega
      · have hHp : p ≤ H := by
          rcases Nat.lt_or_ge H p with h | h
          · exact absurd (HUP.out H p z x h HX.out HPX.out) hc
          · exact h
        by_cases hc2 : z = x
        · have HCZ := Lib.hid (bcmp_q _ _ z x 0 wr ((cmpB_ok.eq z x).2 hc2) HZE.out HXE.out HFZ.out HFX.out)
          clear hc hc2
          go_wp2_with fail
          refine HCZ.out.mono ?_
          rintro e w2 ⟨rfl, rfl⟩
          go_wp2_with fail
          go_roundw
          case rel => exact ⟨i, H, hip, hHp, by omega, rfl, rfl, HB.out⟩
          case measure => simp [intOf]; omega
        · have HCZ := Lib.hid (bcmp_q _ _ z x 1 wr (by unfold ltB at hc; have h0 := cmpB_ne hc2; rcases cmpB_ok.tri z x with h | h | h <;> omega) HZE.out HXE.out HFZ.out HFX.out)
          clear hc hc2
          go_wp2_with fail
          refine HCZ.out.mono ?_
          rintro e w2 ⟨rfl, rfl⟩
          go_wp2_with fail
          go_roundw
          case rel => exact ⟨i, H, hip, hHp, by omega, rfl, rfl, HB.out⟩
          case measure => simp [intOf]; omega
    · have hij2 : i = p := by omega
      have hij3 : j = p := by omega
      subst hij3
      subst hij2
      have hijn : ¬ (i : Int) < (i : Int) := by omega
      have hini : (i : Int) < (n : Int) := by omega
      have hi0 : (0 : Int) ≤ (i : Int) := by omega
      obtain ⟨za, zc, z, hz1, hze⟩ := row_at HE.out (q := i) (by rw [← HN.out]; exact hpn)
      have hx1 : wr.cell? ⟨b, off + i, none⟩ = some (.slice za (List.length z) zc) := hcell i _ hz1
      have hzx := xs_at hz1
      rw [HPX.out] at hzx
      obtain rfl : x = z := Option.some.inj hzx
      have HCZ := Lib.hid (bcmp_q _ _ x x 0 wr (cmpB_self x) (hze.kept HB.out) (HXR.out.kept HB.out) HFX.out HFX.out)
      clear hzx hz1 hcell hb hze
      go_wp2_with fail
      refine HCZ.out.mono ?_
      rintro e w2 ⟨rfl, rfl⟩
      go_wp2_with fail
      go_ret2
      exact ⟨rfl, HB.out⟩



end Go.Proofs.Ytjcmekhamohbnaa.Bc

namespace Go.Proofs.Ytjcmekhamohbnaa.Bc
set_option linter.unusedVariables false
set_option linter.unusedSimpArgs false
open Go.RowKit

open Go.Shelf Go.Sort in
theorem sort_heapG {α : Type} [Inhabited α] (enc : α → Value) (w : World) (g m : Nat) (cur : List Value) (T : TypeId) (d : Array α) (os : Array Obj) (hg : w.heap[g]? = some (.cells cur.toArray T (0, 0))) (hd : d.size ≤ cur.length) :
    (sortWorld enc w g 0 m d os).heap[g]? = some (.cells (d.toList.map enc ++ cur.drop d.size).toArray T (0, 0)) := by
  have hlt := (Array.getElem?_eq_some_iff.1 hg).1
  unfold sortWorld putRow mapBlock grow Go.Sort.ahead
  simp only
  rw [Array.getElem?_append_left (by simpa using hlt), Array.getElem?_modify, if_pos rfl, hg, Option.map_some]
  unfold onCells
  simp only
  congr 2
  unfold putCells
  apply Array.ext_getElem?
  intro k
  rw [Array.getElem?_mapIdx]
  simp only [List.getElem?_toArray, Nat.zero_le, true_and, Nat.zero_add, Nat.sub_zero]
  by_cases hk : k < d.size
  · rw [List.getElem?_append_left (by simpa using hk), List.getElem?_map, List.getElem?_eq_getElem (l := d.toList) (by simpa using hk), List.getElem?_eq_getElem (l := cur) (by omega), Option.map_some, Option.map_some, if_pos hk, getElem!_pos d k hk, Array.getElem_toList]
  · rw [List.getElem?_append_right (by simpa using hk), List.getElem?_drop]
    simp only [List.length_map, Array.length_toList]
    rw [show d.size + (k - d.size) = k by omega]
    rcases h : cur[k]? with _ | u
    · rfl
    · rw [Option.map_some, if_neg hk]
open Go.Shelf Go.Sort in
theorem sort_grownG {α : Type} [Inhabited α] (enc : α → Value) (w : World) (g m : Nat) (d : Array α) (os : Array Obj) : w.grownBy (sortWorld enc w g 0 m d os) (some g) := by
  refine ⟨rfl, rfl, rfl, ?_, fun k hk hne => ?_⟩
  · unfold sortWorld putRow mapBlock grow Go.Sort.ahead
    simp
  · unfold sortWorld putRow mapBlock grow Go.Sort.ahead
    simp only
    rw [Array.getElem?_append_left (by simpa using hk), Array.getElem?_modify, if_neg (fun e => hne (by rw [e]))]
def nth (ps : Row) (i : Nat) : Value × By := ps.getD i (.slice none 0 0, [])
theorem nth_at {ps : Row} {i : Nat} (h : i < ps.length) : ps[i]? = some (nth ps i) := by
  unfold nth
  rw [List.getD_eq_getElem?_getD, List.getElem?_eq_getElem h]
  rfl
theorem nth_no {ps : Row} {i : Nat} (h : ¬ i < ps.length) : nth ps i = (.slice none 0 0, []) := by
  unfold nth
  rw [List.getD_eq_getElem?_getD, List.getElem?_eq_none (by omega)]
  rfl
theorem nth_rd {w : World} {ps : Row} (h : Els w ps) (i : Nat) : Rd w (nth ps i).1 ((nth ps i).2.map u8v) := by
  by_cases hi : i < ps.length
  · exact h _ (List.mem_of_getElem? (nth_at hi))
  · rw [nth_no hi]; exact Rd.nil w
theorem nth_fit {ps : Row} (h : ∀ x ∈ xs ps, Fit x) (i : Nat) : Fit (nth ps i).2 := by
  by_cases hi : i < ps.length
  · exact h _ (List.mem_of_getElem? (xs_at (nth_at hi)))
  · rw [nth_no hi]; exact ⟨fun a ha => by simp at ha, by simp⟩
theorem nth_one {w : World} {ps : Row} (h : Els w ps) (i : Nat) : (nth ps i).1.oneCell' = true := by
  obtain ⟨ao, cap, hv, _⟩ := nth_rd h i
  rw [hv]
  rfl
theorem nth_range (ps : Row) : (List.range ps.length).map (nth ps) = ps := by
  apply List.ext_getElem?
  intro i
  rw [List.getElem?_map]
  by_cases hi : i < ps.length
  · rw [List.getElem?_range hi, Option.map_some, nth_at hi]
  · rw [List.getElem?_eq_none (by simpa using hi), List.getElem?_eq_none (by omega)]; rfl
def cmpI (ps : Row) (i j : Nat) : Int := cmpB (nth ps i).2 (nth ps j).2
open Go.Shelf Go.Sort in
theorem ltI (ps : Row) (i j : Nat) : ltOf (cmpI ps) i j = decide (ltB (nth ps i).2 (nth ps j).2) := rfl
open Go.Shelf Go.Sort in
theorem swoI (ps : Row) : SWO (ltOf (cmpI ps)) where
  irrefl x := by rw [ltI]; exact decide_eq_false (ltB_irr _)
  trans x y z h1 h2 := by
    rw [ltI, decide_eq_true_iff] at *
    exact ltB_trans h1 h2
  ntrans x y z h1 h2 := by
    rw [ltI, decide_eq_false_iff_not] at *
    exact leB_trans h2 h1

set_option maxRecDepth 100000 in
set_option maxHeartbeats 8000000 in
open Go.Shelf Go.Sort in
theorem bsort_some (ps : Row) (base g cap : Nat) (w : World) (hl : ps.length ≤ 100000) (hI : ∀ x ∈ xs ps, Fit x) (hown : OwnR base w (.slice (some ⟨g, 0, none⟩) ps.length cap) ps) (he : ∀ w', w.grownBy w' (some g) → Els w' ps) :
    Calls Try.prog 38 #[.slice (some ⟨g, 0, none⟩) ps.length cap, .func (.func 33) #[] #[]] w fun e w' => e = .returned (.tuple #[]) ∧ ∃ ys : Row, ys.length = ps.length ∧ ys.Perm ps ∧ (∀ (i : Nat) (a b : By), (xs ys)[i]? = some a → (xs ys)[i + 1]? = some b → ¬ ltB b a) ∧ OwnR base w' (.slice (some ⟨g, 0, none⟩) ps.length cap) ys ∧ w.grownBy w' (some g) := by
  obtain ⟨cur, hg, hnc, hcm, hcl, hct, hb⟩ := own_block hown
  have hels := he w (World.grownBy.refl _ _)
  have eg : ∀ args w, (callFunc 33 args).run Try.prog w = .ok (.enter 33 args) w := enters_of Try.func33 (by kernel_rfl) rfl
  have hH : Holds (fun i : Nat => (nth ps i).1) w g 0 (Array.range ps.length) := fun j hj => by
    have hj2 : j < ps.length := by simpa using hj
    rw [Nat.zero_add]
    refine ⟨?_, ownR_frozen hown j⟩
    rw [World.ownsRow.cellAt hown j (by omega)]
    unfold vs
    rw [List.getElem?_map, nth_at hj2, Option.map_some, getElem!_pos (Array.range ps.length) j hj, Array.getElem_range]
  have hcon := Any.slices_SortFunc Try.sortB (fun i : Nat => (nth ps i).1) (fun i => nth_one hels i) (cmpI ps) (swoI ps) 33 #[] g 0 cap (Array.range ps.length) w eg (CmpReads.lays fun m os dk _ x y => (bcmp_q _ _ _ _ _ _ rfl (nth_rd (he _ (sort_grownG _ w g m dk os)) x) (nth_rd (he _ (sort_grownG _ w g m dk os)) y) (nth_fit hI x) (nth_fit hI y)).mono fun e w' h => ⟨h.1, 0, h.2⟩) hH (Array.getElem?_eq_some_iff.1 hg).1 (by simp; omega)
  change Calls Try.prog 38 _ _ _ at hcon
  rw [Array.size_range] at hcon
  refine hcon.mono ?_
  rintro e w' ⟨he2, d', m, os, hp, hs, rfl⟩
  have hsz : d'.size = ps.length := by rw [hp.1, Array.size_range]
  have hperm : d'.toList.Perm (List.range ps.length) := by
    have h := hp.2.2
    rw [Array.toList_extract, Array.toList_extract] at h
    have e1 : d'.toList.extract 0 ps.length = d'.toList := by rw [List.extract_eq_take_drop, List.drop_zero, Nat.sub_zero]; exact List.take_of_length_le (by simp; omega)
    have e2 : (Array.range ps.length).toList.extract 0 ps.length = List.range ps.length := by rw [List.extract_eq_take_drop, List.drop_zero, Nat.sub_zero, Array.toList_range]; exact List.take_of_length_le (by simp)
    rw [e1, e2] at h
    exact h
  refine ⟨he2, d'.toList.map (nth ps), by rw [List.length_map, Array.length_toList]; exact hsz, ?_, fun i a b ha hb2 => ?_, ?_, sort_grownG _ w g m d' os⟩
  · have h := hperm.map (nth ps)
    rwa [nth_range] at h
  · have e1 : xs (d'.toList.map (nth ps)) = d'.toList.map fun i => (nth ps i).2 := by unfold xs; rw [List.map_map]; rfl
    rw [e1] at ha hb2
    have hi2 := (List.getElem?_eq_some_iff.1 hb2).1
    rw [List.length_map, Array.length_toList] at hi2
    have h := hs i (i + 1) (Nat.zero_le _) (by omega) (by omega)
    rw [ltI, getElem!_pos d' (i + 1) hi2, getElem!_pos d' i (by omega), decide_eq_false_iff_not] at h
    rw [List.getElem?_map, Array.getElem?_toList, Array.getElem?_eq_getElem (by omega)] at ha
    rw [List.getElem?_map, Array.getElem?_toList, Array.getElem?_eq_getElem hi2] at hb2
    have h1 := Option.some.inj ha
    have h2 := Option.some.inj hb2
    rw [← h1, ← h2]
    exact h
  · rw [Nat.mul_one] at hcl hct
    have hh := sort_heapG (fun i : Nat => (nth ps i).1) w g m cur 24 d' os hg (by rw [hsz, hcl]; exact hnc)
    have hle : ps.length ≤ cur.length := by rw [hcl]; exact hnc
    have e1 : vs (d'.toList.map (nth ps)) = d'.toList.map fun i => (nth ps i).1 := by unfold vs; rw [List.map_map]; rfl
    refine OwnR.of (n := ps.length) ?_
    rw [e1]
    refine own_of_block hh hnc hcm ?_ ?_ hb
    · rw [List.length_append, List.length_map, List.length_drop, Array.length_toList, hsz, Nat.mul_one, ← hcl]; omega
    · rw [Nat.mul_one, List.take_left' (by rw [List.length_map, Array.length_toList, hsz])]

set_option maxRecDepth 100000 in
set_option maxHeartbeats 8000000 in
theorem insert_zero (fv : Value) (w : World) : Calls Try.prog 80 #[.slice none 0 0, .int .i64 0, .int .i64 0, fv] w fun e w' => e = .returned (.tuple #[]) ∧ w' = w := by
  go_enter Try.func80, Try.ntmps80
  go_wp2_with fail
  refine wp_loop_rounds 1 ?_
  rw [rounds_succ]
  go_wp2_with fail
  go_end0
  exact ⟨rfl, rfl⟩

set_option maxRecDepth 100000 in
set_option maxHeartbeats 8000000 in
theorem pdq_zero (fv : Value) (w : World) : Calls Try.prog 67 #[.slice none 0 0, .int .i64 0, .int .i64 0, .int .i64 0, fv] w fun e w' => e = .returned (.tuple #[]) ∧ w' = w := by
  have HI := Lib.hid (insert_zero fv w)
  go_enter Try.func67, Try.ntmps67
  go_wp2_with fail
  refine wp_loop_rounds 1 ?_
  rw [rounds_succ]
  go_wp2_with fail
  refine HI.out.mono ?_
  rintro e w2 ⟨rfl, rfl⟩
  go_wp2_with fail
  (try simp only [Exit.inBlock, Exit.then])
  refine bodyPost_ret (results_none rfl _ _ _) rfl ?_
  exact ⟨rfl, rfl⟩

set_option maxRecDepth 100000 in
set_option maxHeartbeats 8000000 in
theorem bsort_none (w : World) : Calls Try.prog 38 #[.slice none 0 0, .func (.func 33) #[] #[]] w fun e w' => e = .returned (.tuple #[]) ∧ w' = w := by
  have HL := Lib.hid (len_zero w)
  have HP := Lib.hid (pdq_zero (.func (.func 33) #[] #[]) w)
  go_enter Try.func38, Try.ntmps38
  go_wp2_with fail
  refine HL.out.mono ?_
  rintro e w2 ⟨rfl, rfl⟩
  go_wp2_with fail
  refine HP.out.mono ?_
  rintro e w3 ⟨rfl, rfl⟩
  go_wp2_with fail
  go_end0
  exact ⟨rfl, rfl⟩

theorem bsort_any (ps : Row) (base : Nat) (v : Value) (w : World) (hl : ps.length ≤ 100000) (hI : ∀ x ∈ xs ps, Fit x) (hown : OwnR base w v ps) (he : ∀ w', w.grownBy w' v.ownBlock → Els w' ps) :
    Calls Try.prog 38 #[v, .func (.func 33) #[] #[]] w fun e w' => e = .returned (.tuple #[]) ∧ ∃ ys : Row, ys.length = ps.length ∧ ys.Perm ps ∧ (∀ (i : Nat) (a b : By), (xs ys)[i]? = some a → (xs ys)[i + 1]? = some b → ¬ ltB b a) ∧ OwnR base w' v ys ∧ w.grownBy w' v.ownBlock := by
  rcases hown.2 with ⟨hv, h0⟩ | ⟨g, cap, cur, hv, _⟩
  · subst hv
    have h00 : ps = [] := List.length_eq_zero_iff.1 h0
    refine (bsort_none w).mono ?_
    rintro e w' ⟨he2, rfl⟩
    exact ⟨he2, ps, rfl, List.Perm.refl _, (fun i a b ha _ => by have := (List.getElem?_eq_some_iff.1 ha).1; rw [len_xs, h0] at this; omega), hown, World.grownBy.refl _ _⟩
  · subst hv
    exact bsort_some ps base g cap w hl hI hown he


end Go.Proofs.Ytjcmekhamohbnaa.Bc

namespace Go.Proofs.Ytjcmekhamohbnaa.Bc
set_option linter.unusedVariables false
set_option linter.unusedSimpArgs false
open Go.RowKit

set_option maxRecDepth 100000 in
set_option maxHeartbeats 8000000 in
theorem cdict_any (ps : Row) (lv : Value) (w : World) (hI : ∀ x ∈ xs ps, Fit x) (hl : ps.length ≤ 65535) (hr : Rd w lv (vs ps)) (he : Els w ps) :
    Calls Try.prog 23 #[.agg #[.func (.func 31) #[] #[], .func (.func 32) #[] #[], .func (.func 33) #[] #[], .func (.func 34) #[] #[]], lv] w fun e w' => ∃ v, e = .returned v ∧ OwnB w.heap.size w' v (dictT (xs ps)) ∧ Below w.heap.size w w' := by
  obtain ⟨ao, cap, rfl⟩ := rd_shape1 hr
  obtain ⟨n, hn⟩ : ∃ n, n = ps.length := ⟨_, rfl⟩
  rw [len_vs, ← hn] at hr ⊢
  rw [← hn] at hl
  have HR := Lib.hid hr
  have HN := Lib.hid hn
  have HI := Lib.hid hI
  have HE := Lib.hid he
  have HNX := Lib.hid (show n = (xs ps).length by rw [len_xs]; exact hn)
  clear hr hn hI he
  go_enter Try.func23, Try.ntmps23
  go_upto_region 1 with (fail)
  obtain ⟨W1, hW1⟩ : ∃ W1 : World, W1 = w.alloc (.cells #[.func (.func 31) #[] #[], .func (.func 32) #[] #[], .func (.func 33) #[] #[], .func (.func 34) #[] #[]] 47) := ⟨_, rfl⟩
  obtain ⟨X, hX⟩ : ∃ X, X = w.heap.size := ⟨_, rfl⟩
  have hxb : W1.heap[X]? = some (.cells #[.func (.func 31) #[] #[], .func (.func 32) #[] #[], .func (.func 33) #[] #[], .func (.func 34) #[] #[]] 47 (0, 0)) := by rw [hW1, hX]; exact heap_alloc_new w _
  have HB1 := Lib.hid (show Below w.heap.size w W1 by rw [hW1]; exact below_alloc w _)
  rw [← hW1, ← hX]
  have HXX := Lib.hid (show X = w.heap.size ∧ X < W1.heap.size from ⟨hX, (Array.getElem?_eq_some_iff.1 hxb).1⟩)
  have HX := Lib.hid fun (w' : World) (h : Below W1.heap.size W1 w') => cod_cells ((h.block X HXX.out.2).trans hxb)
  have HXB := Lib.hid fun (w' : World) (h : Below W1.heap.size W1 w') => ((h.block X HXX.out.2).trans hxb)
  clear hW1 hX hxb
  have HR1 := Lib.hid (HR.out.kept HB1.out)
  have HE1 := Lib.hid (HE.out.kept HB1.out)
  have HCL := Lib.hid (bsclone_any ps (.slice ao n cap) W1 (by rw [← HN.out]; omega) HR1.out HE1.out)
  go_wp2_with fail
  refine HCL.out.mono ?_
  rintro e w2 ⟨v1, rfl, hown2, hb2⟩
  have HO2 := Lib.hid hown2
  have HB2 := Lib.hid hb2
  have cf2 := (HX.out w2 hb2).2.2.1
  have HSO := Lib.hid (bsort_any ps W1.heap.size v1 w2 (by rw [← HN.out]; omega) HI.out hown2 (fun w' hg => HE1.out.kept (below_ownB hb2 hb2.size hg (ownR_base hown2))))
  clear hown2 hb2
  go_wp2_with fail
  refine HSO.out.mono ?_
  rintro e w3 ⟨rfl, ys, hyl, hyp, hys, hown3, hg3⟩
  have HB3 := Lib.hid (below_ownB HB2.out HB2.out.size hg3 (ownR_base HO2.out))
  have HPE := Lib.hid (show ∀ p ∈ ys, p ∈ ps from fun p hp => hyp.mem_iff.1 hp)
  have HIY := Lib.hid (show ∀ x ∈ xs ys, Fit x from fun x hx => by
    obtain ⟨p, hp, rfl⟩ := List.mem_map.1 hx
    exact HI.out p.2 (List.mem_map.2 ⟨p, HPE.out p hp, rfl⟩))
  have HWT := Lib.hid (show xs (compP ys ys.length) = wordsT (xs ps) from by
    rw [xs_compP ys _ (Nat.le_refl _), ← len_xs ys]
    exact compQ_words (fun z => (hyp.map Prod.snd).mem_iff) hys)
  have HCO := Lib.hid (bcompact_any ys W1.heap.size X v1 w3 (by rw [hyl, ← HN.out]; omega) HIY.out hown3 (fun w' hg => fun p hp => (HE1.out p (HPE.out p hp)).kept (below_ownB HB3.out HB3.out.size hg (ownR_base hown3))) (HXB.out w3 HB3.out) (fun e => by have h1 := ownR_base HO2.out X e; have h2 := HXX.out.2; omega))
  have HO3 := Lib.hid hown3
  clear cf2 hyl hyp hys hown3 hg3
  go_wp2_with fail
  refine HCO.out.mono ?_
  rintro e w4 ⟨v4, rfl, hown4, hg4, hv4⟩
  have HB4 := Lib.hid (below_ownB HB3.out HB3.out.size hg4 (ownR_base HO3.out))
  obtain ⟨wo, wdc, rfl⟩ := hown4.shape
  obtain ⟨pw, hpw⟩ : ∃ pw, pw = compP ys ys.length := ⟨_, rfl⟩
  rw [← hpw] at hown4 HWT ⊢
  have HPW2 := Lib.hid (show ∀ p ∈ pw, p ∈ ps from fun p hp => HPE.out p (compP_mem ys ys.length p (by rw [← hpw]; exact hp)))
  obtain ⟨kw, hkw0⟩ : ∃ kw, kw = pw.length := ⟨_, rfl⟩
  have hkw : kw = (wordsT (xs ps)).length := by rw [hkw0, ← len_xs, HWT.out]
  have HKW0 := Lib.hid hkw0
  rw [← hkw0]
  have hkwn : kw ≤ n := by rw [hkw, HNX.out]; exact wordsT_len _
  rw [← hkw0] at hown4
  clear hpw
  obtain ⟨W4, hW4⟩ : ∃ W4, W4 = w4 := ⟨_, rfl⟩
  rw [← hW4] at hown4 HB4 ⊢
  have HO4 := Lib.hid hown4
  have HKW := Lib.hid hkw
  have HRW := Lib.hid (show Rd W4 (.slice wo kw wdc) (vs pw) from OwnR.rd hown4)
  have HEW := Lib.hid (show Els W4 pw from fun p hp => (HE1.out p (HPW2.out p hp)).kept HB4.out)
  have HIW := Lib.hid (show ∀ x ∈ xs pw, Fit x from fun x hx => by
    obtain ⟨p, hp, rfl⟩ := List.mem_map.1 hx
    exact HI.out p.2 (List.mem_map.2 ⟨p, HPW2.out p hp, rfl⟩))
  have hsz4 := HB4.out.size
  have c4 := HX.out W4 HB4.out
  obtain ⟨c40, c41, c42, c43⟩ := c4
  have HXC := Lib.hid fun (w' : World) (h : Below W4.heap.size W4 w') => HX.out w' (HB4.out.trans (h.mono hsz4))
  obtain ⟨kn, hkn⟩ : ∃ kn, kn = (numC kw).length := ⟨_, rfl⟩
  obtain ⟨kp, hkp⟩ : ∃ kp, kp = (plainT (wordsT (xs ps))).length := ⟨_, rfl⟩
  have HNU := Lib.hid (show ∀ w0 w', Below w0.heap.size w0 w' → Below W4.heap.size W4 w' → Calls Try.prog 36 #[.slice none 0 0, .int .u64 (kw : Int)] w' fun e w'' => ∃ ao5 cap5, e = .returned (.slice ao5 kn cap5) ∧ w''.ownsRow W4.heap.size 5 1 (.slice ao5 kn cap5) kn ((numC kw).map u8v) ∧ Below w0.heap.size w0 w'' ∧ Below W4.heap.size W4 w'' from fun w0 w' h0 h4 => by
    refine (num_nil kw w' (by omega)).mono ?_
    rintro e w'' ⟨ao5, cap5, he, ho, hb⟩
    rw [← hkn] at he ho
    exact ⟨ao5, cap5, he, by have h := own_mono ho h4.size; rw [← hkn] at h; exact h, below_then h0 hb, below_then h4 hb⟩)
  have HPL := Lib.hid (show ∀ w0 w', Below w0.heap.size w0 w' → Below W4.heap.size W4 w' → Calls Try.prog 21 #[.agg #[.func (.func 31) #[] #[], .func (.func 32) #[] #[], .func (.func 33) #[] #[], .func (.func 34) #[] #[]], .slice wo kw wdc] w' fun e w'' => ∃ ao6 cap6, e = .returned (.slice ao6 kp cap6) ∧ Rd w'' (.slice ao6 kp cap6) ((plainT (wordsT (xs ps))).map u8v) ∧ Below w0.heap.size w0 w'' ∧ Below W4.heap.size W4 w'' from fun w0 w' h0 h4 => by
    refine (cplain_any pw _ w' HIW.out (by rw [← HKW0.out]; omega) (HRW.out.kept h4) (HEW.out.kept h4)).mono ?_
    rintro e w'' ⟨v, he, ho, hb⟩
    rw [HWT.out] at ho
    obtain ⟨ao6, cap6, rfl⟩ := ho.shape
    have hrd := OwnB.rd ho
    rw [← hkp] at he hrd
    exact ⟨ao6, cap6, he, hrd, below_then h0 hb, below_then h4 hb⟩)
  have HKP := Lib.hid hkp
  have HKN := Lib.hid hkn
  have HKNL := Lib.hid (show kn ≤ 10 from by rw [hkn]; exact (numF_len 9 kw).1)
  have HKPL := Lib.hid (show kp ≤ 5000000 from by rw [hkp]; have := plainT_len (wordsT (xs ps)) (fun x hx => HI.out x ((wordsT_mem _ x).1 hx)); rw [← hkw] at this; omega)
  have HONP := Lib.hid (ones_flat (ones_u8 (plainT (wordsT (xs ps)))))
  have hwkw : IntKind.u64.wrap (kw : Int) = (kw : Int) := IntWalk.u64_in _ (by omega)
  have HGC := Lib.hid (show ∀ w', Below W4.heap.size W4 w' → Below w.heap.size w w' from fun w' h => HB1.out.trans ((HB4.out.trans (h.mono hsz4)).mono HB1.out.size))
  have hS4 : Below W4.heap.size W4 W4 := Below.refl _ _
  clear hown4 hg4 hv4 hW4 hkw hkw0 hkn hkp HO2 HO3 HB2 HB3 HSO HCO HCL HXB
  go_upto_region 4 with (fail)
  go_cut [6] (fun v wx => ∃ ao7 cap7, v = .slice ao7 (kn + kp) cap7 ∧ wx.ownsRow W4.heap.size 5 1 (.slice ao7 (kn + kp) cap7) (kn + kp) ((numC kw ++ plainT (wordsT (xs ps))).map u8v) ∧ Below W4.heap.size W4 wx)
  case first =>
    go_region_law
      (first
        | (go_simp; go_at_call 36; have h6 := hS6; refine (HNU.out w6 _ ?_ ?_).mono ?_; (repeat (first | assumption | exact Below.refl _ _ | refine below_draws2 ?_ _ | refine below_drw2 ?_)); (repeat (first | assumption | exact Below.refl _ _ | refine below_draws2 ?_ _ | refine below_drw2 ?_)); rintro e w5 ⟨ao5, cap5, rfl, hown5, hb65, hS5⟩; have hT : Below w6.heap.size w6 w5 := hb65; have cf : w5.cell? ⟨X, 0, none⟩ = some (.func (.func 31) #[] #[]) := (HXC.out w5 hS5).1)
        | (go_simp; go_at_call 36; refine (HNU.out W4 _ ?_ ?_).mono ?_; (repeat (first | assumption | exact Below.refl _ _ | refine below_draws2 ?_ _ | refine below_drw2 ?_)); (repeat (first | assumption | exact Below.refl _ _ | refine below_draws2 ?_ _ | refine below_drw2 ?_)); rintro e w5 ⟨ao5, cap5, rfl, hown5, _, hS5⟩; have hd0 := (HXC.out w5 hS5).1; have hd1 := (HXC.out w5 hS5).2.1; have hd2 := (HXC.out w5 hS5).2.2.1; have hd3 := (HXC.out w5 hS5).2.2.2)
        | (go_simp; go_at_call 21; have h5 := hS5; refine (HPL.out w5 _ ?_ ?_).mono ?_; (repeat (first | assumption | exact Below.refl _ _ | refine below_draws2 ?_ _ | refine below_drw2 ?_)); (repeat (first | assumption | exact Below.refl _ _ | refine below_draws2 ?_ _ | refine below_drw2 ?_)); rintro e w6 ⟨ao6, cap6, rfl, hown6, hb56, hS6⟩; have hU : Below w5.heap.size w5 w6 := hb56)
        | (go_simp; go_at_call 21; refine (HPL.out W4 _ ?_ ?_).mono ?_; (repeat (first | assumption | exact Below.refl _ _ | refine below_draws2 ?_ _ | refine below_drw2 ?_)); (repeat (first | assumption | exact Below.refl _ _ | refine below_draws2 ?_ _ | refine below_drw2 ?_)); rintro e w6 ⟨ao6, cap6, rfl, hown6, _, hS6⟩)
        | (have h := hT; (refine step_append_k elmU8 (by rfl) _ _ (by rfl) W4.heap.size (.slice ao5 kn cap5) kn ((numC kw).map u8v) (by rfl) hown5 (.slice ao6 kp cap6) (((plainT (wordsT (xs ps))).map u8v).map fun u => [u]) (by rfl) (rdS_flat (show Rd _ (.slice ao6 kp cap6) ((plainT (wordsT (xs ps))).map u8v) from by exact Rd.kept hown6 hb65)) HONP.out (by simp; have := HKPL.out; have := HKNL.out; have := HKP.out; omega) hS5.size (kn + kp) (by simp; exact HKP.out.symm) ?_; intro ao7 cap7 w7 hown7 hgrow7 hnew7; have hS7 : Below W4.heap.size W4 w7 := below_ownB hS5 hS5.size (show World.grownBy _ w7 (Value.slice ao5 kn cap5).ownBlock from hgrow7) (own_base hown5)))
        | (have h := hU; (refine step_append_k elmU8 (by rfl) _ _ (by rfl) W4.heap.size (.slice ao5 kn cap5) kn ((numC kw).map u8v) (by rfl) (hown5.kept (grown_of_below hb56 none) (by cases h : (Value.slice ao5 kn cap5).ownBlock with | none => exact .inl rfl | some g => exact .inr (by simp))) (.slice ao6 kp cap6) (((plainT (wordsT (xs ps))).map u8v).map fun u => [u]) (by rfl) (rdS_flat (show Rd _ (.slice ao6 kp cap6) ((plainT (wordsT (xs ps))).map u8v) from by exact Rd.kept hown6 (Below.refl _ _))) HONP.out (by simp; have := HKPL.out; have := HKNL.out; have := HKP.out; omega) hS6.size (kn + kp) (by simp; exact HKP.out.symm) ?_; intro ao7 cap7 w7 hown7 hgrow7 hnew7; have hS7 : Below W4.heap.size W4 w7 := below_ownB hS6 hS6.size (show World.grownBy _ w7 (Value.slice ao5 kn cap5).ownBlock from hgrow7) (own_base hown5)))
        | fail)
    all_goals
      go_wp2_with fail
      go_meet
      exact ⟨ao7, cap7, rfl, by rw [List.map_append]; rw [flat_ones] at hown7; exact hown7, hS7⟩
  case rest =>
    obtain ⟨ao7, cap7, rfl, hown7, hbel7⟩ := hcut
    obtain ⟨W7, hW7⟩ : ∃ W7 : World, W7 = wc := ⟨_, rfl⟩
    rw [← hW7] at hown7 hbel7 ⊢
    clear hW7
    have HO7 := Lib.hid hown7
    have HB7 := Lib.hid (HGC.out W7 hbel7)
    have HRW7 := Lib.hid (HRW.out.kept hbel7)
    have HEW7 := Lib.hid (HEW.out.kept hbel7)
    have HXC7 := Lib.hid (show ∀ w', Below W7.heap.size W7 w' → w'.cell? ⟨X, 2, none⟩ = some (.func (.func 33) #[] #[]) from fun w' h => (HXC.out w' (hbel7.trans (h.mono hbel7.size))).2.2.1)
    have HSZ7 := Lib.hid (show w.heap.size ≤ W4.heap.size from (HGC.out W4 hS4).size)
    have HS47 := Lib.hid hbel7.size
    obtain ⟨ei, he1, he2, he3, he4⟩ := info_parts info_u64
    obtain ⟨W8, hmk, hown8, hg8⟩ := run_make_full (P := Try.prog) W7 W7.heap.size 62 57 ei (.int .u64 0) 1 Try.underlying62 he1 he2 he3 .i64 .i64 n (by rw [he4]; omega) (by unfold maxLen; omega) (Nat.le_refl _)
    obtain ⟨G, hG⟩ : ∃ G, G = W7.heap.size := ⟨_, rfl⟩
    rw [← hG] at hmk hown8
    have HO8 := Lib.hid (show W8.ownsRow G 57 1 (.slice (some ⟨G, 0, none⟩) n n) n ((fillT (placeT (wordsT (xs ps))) (xs ps) 0 n 0).map u64v) from by
      rw [show (Value.int .u64 0).cells = #[Value.int .u64 0] from rfl, Nat.mul_one, toList_madeCells_one] at hown8
      rw [fillT_zero, List.map_replicate]
      exact hown8)
    have HB8 := Lib.hid (show Below W7.heap.size W7 W8 from ⟨hg8.os, hg8.tape, hg8.output, hg8.size, fun i hi => hg8.block i hi (by simp)⟩)
    have HGG := Lib.hid hG
    clear hown8 hg8 he1 he2 he3 he4 hG hown7 hbel7 c40 c41 c42 c43 hS4 HNU HPL HXC HRW HGC HONP
    go_upto_region 6 with (fail)
    clear hmk
    go_wp2_with fail
    go_loopw [34] (fun i wr => ∃ q : Nat, q ≤ n ∧ i = .int .i64 (q : Int) ∧ wr.ownsRow G 57 1 (.slice (some ⟨G, 0, none⟩) n n) n ((fillT (placeT (wordsT (xs ps))) (xs ps) 0 n q).map u64v) ∧ Below W7.heap.size W7 wr) (fun i _ => n - (intOf i).toNat)
    case atStart => exact ⟨0, Nat.zero_le _, rfl, HO8.out, HB8.out⟩
    case round =>
      obtain ⟨q, hq, rfl, hown, hbel⟩ := hrel
      have HO := Lib.hid hown
      have HBL := Lib.hid hbel
      clear hown hbel
      by_cases hlt : q < n
      · have hlti : (q : Int) < (n : Int) := by omega
        have hq0 : (0 : Int) ≤ (q : Int) := by omega
        obtain ⟨b, off, rfl, hcell⟩ := (rdv_cells (HR.out.kept (HB7.out.trans (HBL.out.mono HB7.out.size)))).2 (by omega)
        obtain ⟨za, zc, p, hat0, hze⟩ := row_at HE.out (q := q) (by rw [← HN.out]; exact hlt)
        have hx : wr.cell? ⟨b, off + q, none⟩ = some (.slice za (List.length p) zc) := hcell q _ hat0
        have hat := xs_at hat0
        have HD := Lib.hid (fillT_step (placeT (wordsT (xs ps))) 0 HNX.out.symm hlt hat)
        have hmem : p ∈ wordsT (xs ps) := (wordsT_mem _ p).2 (List.mem_of_getElem? hat)
        have HBS := Lib.hid (bbsearch_any pw p (.slice za (List.length p) zc) (.slice wo kw wdc) wr (by rw [← HKW0.out]; omega) HIW.out (by rw [HWT.out]; exact wordsT_up _) (by rw [HWT.out]; exact hmem) (HRW7.out.kept HBL.out) (HEW7.out.kept HBL.out) (hze.kept (HB7.out.trans (HBL.out.mono HB7.out.size))))
        rw [HWT.out] at HBS
        have hpl := placeT_lt (wordsT_up _) hmem
        obtain ⟨t, ht⟩ : ∃ t : Nat, t = placeT (wordsT (xs ps)) p := ⟨_, rfl⟩
        rw [← ht, ← HKW.out] at hpl
        rw [← ht] at HBS
        have htw : IntKind.u64.wrap (t : Int) = (t : Int) := IntWalk.u64_in _ (by omega)
        have HTT := Lib.hid ht
        have cx := HXC7.out wr HBL.out
        clear hcell hat ht hmem hat0 hze
        go_wp2_with fail
        refine HBS.out.mono ?_
        rintro e w10 ⟨rfl, hb10⟩
        have HO10 := Lib.hid (show w10.ownsRow G 57 1 (.slice (some ⟨G, 0, none⟩) n n) n ((fillT (placeT (wordsT (xs ps))) (xs ps) 0 n q).map u64v) from HO.out.kept (grown_of_below hb10 none) (.inr (by simp [Value.ownBlock])))
        have HB10 := Lib.hid (below_then HBL.out hb10)
        have hcG2 : ∃ u, w10.cell? ⟨G, q, none⟩ = some u := by
          rw [HO10.out.cellAt q (by omega)]
          exact ⟨_, List.getElem?_eq_getElem (by rw [List.length_map, fillT_len _ _ HNX.out.symm hq]; exact hlt)⟩
        obtain ⟨uG, hcG3⟩ := hcG2
        have hfG := HO10.out.frozenAt q
        have hst := HO10.out.stored q (.int .u64 (t : Int))
        have HST := Lib.hid hst
        clear hst hb10 hx cx
        go_wp2_with fail
        go_roundw
        case rel =>
          refine ⟨q + 1, by omega, by go_num, ?_, ?_⟩
          · rw [HD.out, ← HTT.out, List.map_set]
            have h := HST.out.1
            exact h
          · exact HB10.out.setCell (p := ⟨G, q, none⟩) (by show _ ≤ G; rw [HGG.out]; exact Nat.le_refl _) _
        case measure => simp [intOf]; omega
      · have hqn : q = n := by omega
        subst hqn
        have hlti : ¬ (q : Int) < (q : Int) := by omega
        have HUR := Lib.hid (show Rd wr (.slice (some ⟨G, 0, none⟩) q q) (((xs ps).map (placeT (wordsT (xs ps)))).map u64v) from by
          have h := Rd.of_owns HO.out
          rw [fillT_all _ _ HNX.out.symm] at h
          exact h)
        obtain ⟨us, hus⟩ : ∃ us, us = (xs ps).map (placeT (wordsT (xs ps))) := ⟨_, rfl⟩
        rw [← hus] at HUR
        have HLEN := Lib.hid (show us.length = q by rw [hus, List.length_map, HNX.out])
        have H64 := Lib.hid (show ∀ i, us.getD i 0 < 18446744073709551616 from fun i => by
          rw [List.getD_eq_getElem?_getD]
          cases hz : us[i]? with
          | none => decide
          | some x =>
            rw [hus] at hz
            obtain ⟨m, hm, rfl⟩ := List.mem_map.1 (List.mem_of_getElem? hz)
            have h1 := placeT_lt (wordsT_up _) ((wordsT_mem _ m).2 hm)
            rw [← HKW.out] at h1
            show placeT (wordsT (xs ps)) m < _
            omega)
        have HUS := Lib.hid hus
        have HPW := Lib.hid (pwidth_any kw (by omega) wr)
        have hbl := (bitLen_le (kw - 1) (by omega)).1
        obtain ⟨wd, hwd⟩ : ∃ wd, wd = Lib.bitLen (kw - 1) := ⟨_, rfl⟩
        rw [← hwd] at hbl HPW
        have HWD := Lib.hid hwd
        have HPA := Lib.hid (pack_any (wd : Int) (some ⟨G, 0, none⟩) q q us wr HUR.out H64.out (by omega))
        have hhe : heldN (wd : Int) = wd := heldN_id wd hbl
        rw [hhe] at HPA
        have hpkl := packB_length wd us
        have hpk2 : wd * us.length ≤ 64 * 65535 := Nat.mul_le_mul hbl (by rw [HLEN.out]; exact hl)
        obtain ⟨kq, hkq⟩ : ∃ kq, kq = (packB wd us).length := ⟨_, rfl⟩
        have hkql : kq ≤ 600000 := by rw [hkq, hpkl]; omega
        have HKQ := Lib.hid hkq
        have HO9 := Lib.hid (show wr.ownsRow W4.heap.size 5 1 (.slice ao7 (kn + kp) cap7) (kn + kp) ((numC kw ++ plainT (wordsT (xs ps))).map u8v) from HO7.out.kept (grown_of_below HBL.out none) (by cases h : (Value.slice ao7 (kn + kp) cap7).ownBlock with | none => exact .inl rfl | some g => exact .inr (by simp)))
        clear hus hwd hhe hpkl hpk2 hkq HUR
        go_wp2_with fail
        refine HPW.out.mono ?_
        rintro e w9 ⟨rfl, rfl⟩
        go_wp2_with fail
        refine HPA.out.mono ?_
        rintro e w10 ⟨ao10, cap10, rfl, hown10, hb10⟩
        have HB10 := Lib.hid (below_then HBL.out hb10)
        have HR10 := Lib.hid (rdS_flat (show Rd w10 (.slice ao10 kq cap10) ((packB wd us).map u8v) from by have := Rd.of_owns hown10; rw [List.length_map, ← HKQ.out] at this; exact this))
        rw [List.length_map, ← HKQ.out]
        have HO10 := Lib.hid (show w10.ownsRow W4.heap.size 5 1 (.slice ao7 (kn + kp) cap7) (kn + kp) ((numC kw ++ plainT (wordsT (xs ps))).map u8v) from HO9.out.kept (grown_of_below hb10 none) (by cases h : (Value.slice ao7 (kn + kp) cap7).ownBlock with | none => exact .inl rfl | some g => exact .inr (by simp)))
        have HON := Lib.hid (ones_flat (ones_u8 (packB wd us)))
        have hsz10 : W4.heap.size ≤ w10.heap.size := Nat.le_trans HS47.out HB10.out.size
        have hkpl := HKPL.out
        have hknl := HKNL.out
        clear hown10 hb10 HPA HO9
        go_wp2_with (at_builtin; go_must (refine wpList_append_k elmU8 rfl _ _ rfl W4.heap.size _ _ _ rfl HO10.out _ (((packB wd us).map u8v).map fun u => [u]) rfl HR10.out HON.out (by simp; have := HKQ.out; omega) hsz10 (kn + kp + kq) (by have := HKQ.out; simp; omega) ?_); intro ao11 cap11 w11 hown11 hgrow11 hnew11; have HO11 := Lib.hid hown11; have HG11 := Lib.hid hgrow11; clear hown11 hgrow11 hnew11)
        go_ret
        have hbw10 : Below w.heap.size w w10 := HB7.out.trans (HB10.out.mono HB7.out.size)
        refine ⟨_, rfl, ?_, below_ownB hbw10 hbw10.size (show w10.grownBy w11 (Value.slice ao7 (kn + kp) cap7).ownBlock from HG11.out) (fun k hk => Nat.le_trans HSZ7.out (own_base HO10.out k hk))⟩
        have h := HO11.out
        rw [flat_ones, ← List.map_append] at h
        have h2 := OwnB.of (own_mono h HSZ7.out)
        have e : dictT (xs ps) = numC kw ++ plainT (wordsT (xs ps)) ++ packB wd us := by
          unfold dictT
          rw [← HKW.out, ← HWD.out, ← HUS.out]
        rw [e]
        exact h2


end Go.Proofs.Ytjcmekhamohbnaa.Bc
