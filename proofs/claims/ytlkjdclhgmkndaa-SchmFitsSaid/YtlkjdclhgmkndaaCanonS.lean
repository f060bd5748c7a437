/-
  A region that draws its order.
-/
import Derived.Test.YtlkjdclhgmkndaaCanonR
namespace Go.Proofs.Ytlkjdclhgmkndaa.Canon
set_option linter.unusedVariables false
set_option linter.unusedSimpArgs false
open Go.RowKit
section
variable {Φ : Fx} {P : Program} {E : Env} {call : CallF} {ops : Array Oper} {tm0 : List Value}

theorem HR.dm {c : Ctx} {D D' : Nat → Prop} {H : T AObj} {w : World} (h : HR Φ P c D H w) (hD : ∀ o, D o → D' o) : HR Φ P c D' H w :=
  ⟨fun o ho => ⟨hD o (h.dom o ho).1, (h.dom o ho).2⟩, fun o obj ho => (h.rows o obj ho).keep (fun _ _ => ⟨rfl, rfl⟩) hD (h.dom o (by rw [ho]; simp)).1 rfl, h.inj, h.bel, h.up, h.nm⟩

theorem cnt_set : ∀ (l : List Bool) (i : Nat), l[i]? = some false → (l.set i true).countP (fun b => !b) + 1 = l.countP (fun b => !b)
  | [], i, h => by simp at h
  | b :: l, 0, h => by simp at h; subst h; simp
  | b :: l, i + 1, h => by
    have := cnt_set l i (by simpa using h)
    simp only [List.set_cons_succ, List.countP_cons]
    omega

theorem looks_op {o : Oper} {t : Tmp} (h : (Operand.tmp t) ∈ o.op.operands) : t ∈ o.looksAt ops := by
  unfold Oper.looksAt
  exact List.mem_append_left _ (List.mem_filterMap.2 ⟨.tmp t, by simpa using h, rfl⟩)

/-- The temporaries that an operation looks at hold what they held in the runner's order. -/
theorem looks_same {R : Nat → Rec} {D0 : Nat → Prop} {H0 : Nat → Option AObj} {n0 n1 m : Nat} (T : TI P E call ops tm0 R D0 H0 n0 n1 m) {ex : Nat → Bool} {i : Nat} {o : Oper} (hi : ops.toList[i]? = some o) (hex : ex i = false)
    (hmask : ∀ k, ((masks ops.toList []).getD i 0).testBit k = true → ex k = true) (hcl : ∀ j k, ex j = true → ((masks ops.toList []).getD j 0).testBit k = true → ex k = true) {t : Tmp} (ht : t ∈ o.looksAt ops) :
    (tmSel R ex ops.toList 0 tm0)[t]? = (text ops.toList tm0 R i)[t]? := by
  refine tmSel_at ops.toList 0 tm0 tm0 rfl fun j oj hj hd => ?_
  rw [Nat.zero_add]
  rcases Nat.lt_trichotomy j i with h | h | h
  · rcases (T.pr i o hi).2 j oj h hj with h1 | h1
    · rw [hmask j h1]; simp [h]
    · exact absurd ht ((Oper.apart_spec h1).1 t hd)
  · rw [h, hex]; simp
  · rcases (T.pr j oj hj).2 i o h hi with h1 | h1
    · cases hej : ex j with
      | false => symm; simp; omega
      | true => have := hcl j i hej h1; rw [hex] at this; cases this
    · exact absurd ht ((Oper.apart_spec h1).2.2 t hd)

theorem aeval_same {Z : Nat} {tm tm' : List Value} {o : Oper} (h : ∀ t, t ∈ o.looksAt ops → tm[t]? = tm'[t]?) : ∀ x ∈ o.op.operands, aeval Z tm x = aeval Z tm' x := by
  intro x hx
  cases x with
  | tmp t => simp only [aeval, nth_eq, h t (looks_op hx)]
  | _ => rfl

theorem wanted_same {tm tm' : List Value} {o : Oper} (h : ∀ t, t ∈ o.looksAt ops → tm[t]? = tm'[t]?) : wanted ops.toList tm o = wanted ops.toList tm' o := by
  unfold wanted
  cases hg : o.guard with
  | none => rfl
  | some jw =>
    obtain ⟨j, want⟩ := jw
    simp only
    cases hd : dstOf ops.toList j with
    | none => rfl
    | some d =>
      have hl : d ∈ o.looksAt ops := by
        unfold Oper.looksAt
        refine List.mem_append_right _ ?_
        rw [hg]
        unfold dstOf at hd
        rw [nth_eq, Array.getElem?_toList] at hd
        cases hj : ops[j]? with
        | none => rw [hj] at hd; cases hd
        | some oj => rw [hj] at hd; simp only at hd; simp [hj, hd]
      simp only [nth_eq, h d hl]

theorem put_same {R : Nat → Rec} {D0 : Nat → Prop} {H0 : Nat → Option AObj} {n0 n1 m : Nat} (T : TI P E call ops tm0 R D0 H0 n0 n1 m) {ex : Nat → Bool} {i : Nat} {o : Oper} (hi : ops.toList[i]? = some o) (hex : ex i = false)
    (hcl : ∀ j k, ex j = true → ((masks ops.toList []).getD j 0).testBit k = true → ex k = true) : tmSel R (exI ex i) ops.toList 0 tm0 = putT (tmSel R ex ops.toList 0 tm0) o.dst (R i).v := by
  apply List.ext_getElem?
  intro t
  have h := tmSel_put (R := R) (sel := ex) (i := i) (t := t) (oi := o) ops.toList 0 tm0 (Nat.zero_le _) (by simpa using hi) (fun j oj hj hlt hd hd' => by
    rw [Nat.zero_add] at hlt ⊢
    rcases (T.pr j oj hj).2 i o hlt hi with h1 | h1
    · cases hej : ex j with
      | false => rfl
      | true => have := hcl j i hej h1; rw [hex] at this; cases this
    · exact absurd hd ((Oper.apart_spec h1).2.1 t hd'))
  have e : (fun j => ex j && !decide (j = i)) = ex := by
    funext j
    by_cases hji : j = i
    · rw [hji, hex]; simp
    · simp [hji]
  rw [e] at h
  exact h

theorem full_end {R : Nat → Rec} {H0 : Nat → Option AObj} {t : Nat} (ht3 : (R t).kind = 3) : ∀ n, t < n → (∀ j, j < n → 2 ≤ (R j).kind → j ≤ t) → fullTo R H0 n = (R t).o.heap.get
  | 0, h, _ => by omega
  | k + 1, h, hj => by
    unfold fullTo
    by_cases htk : t = k
    · subst htk; rw [if_neg (by omega), if_pos ht3]
    · have hk2 : ¬ 2 ≤ (R k).kind := fun h2 => by have := hj k (by omega) h2; omega
      rw [if_neg (by omega), if_neg (by omega)]
      exact full_end ht3 k (by omega) fun j hj' => hj j (by omega)

/-- Such a load, in whatever memory has these cells there. -/
theorem LoadsTo.congr {ev ev2 : Operand → Value} {o : Oper} {ad : Addr} {n : Nat} {cs : List Value} {v : Value} (h : LoadsTo P ev o ad n cs v) (he : ∀ x ∈ o.op.operands, ev2 x = ev x) : LoadsTo P ev2 o ad n cs v := by
  obtain ⟨t, a, h1, h2, h3⟩ := h
  exact ⟨t, a, h1, by rw [he a (by rw [h1]; simp [Op.operands])]; exact h2, h3⟩

theorem still_run {c : Ctx} {D : Nat → Prop} {F : Nat → Option AObj} {w : World} {ev ev' : Operand → Value} {o : Oper} {ad : Addr} {n : Nat} {cs : List Value} {v : Value} (h : HRF Φ P c D F w) (hF : cellsF F ad n = some cs)
    (hl : LoadsTo P ev o ad n cs v) (hev : ∀ x, VR (zId P) c D (ev x) (ev' x)) : ∃ v', VR (zId P) c D v v' ∧ (execOp ev' o).run P w = .ok (.value v') w := by
  obtain ⟨t, a, h1, h2, h3⟩ := hl
  have hH : ∃ H : T AObj, HR Φ P c D H w ∧ cellsAt H ad n = some cs := by
    have hF2 := hF
    unfold cellsF at hF2
    split at hF2
    · rename_i obj hob
      have hb : ad.block < 4000000 := (h.dom ad.block (by rw [hob]; simp)).2.2
      have hg : ∀ p, (T.set (some obj) deep (.leaf : T AObj) ad.block).get p = if p = ad.block then some obj else none := fun p => by
        rw [get_set _ _ _ _ _ (by unfold deep; omega), get_leaf]
      refine ⟨T.set (some obj) deep .leaf ad.block, h.sub fun p ob hp => ?_, ?_⟩
      · rw [hg] at hp
        by_cases e : p = ad.block
        · rw [if_pos e] at hp; rw [e, hob]; exact hp
        · rw [if_neg e] at hp; cases hp
      · unfold cellsAt
        rw [hg, if_pos rfl]; exact hF2
    · cases hF2
  obtain ⟨H, hH, hc⟩ := hH
  obtain ⟨ob, off, rfl, e3, hd⟩ := ptr_inv (h2 ▸ hev a)
  obtain ⟨l', r1, r2, r3, r4⟩ := read_cells hH hc
  rcases h3 with ⟨hag, hsz, rfl⟩ | ⟨hag, ⟨sz, hsz⟩, rfl, rfl⟩
  · refine ⟨_, VR.agg_of r1, ?_⟩
    unfold execOp
    rw [h1]
    simp only [Instr.loadAt, e3, Instr.sureAddr, loadVar, Sem.run_bind, Sem.run_pure, Result.andThen_ok, run_isAgg' hag, if_true, run_sizeOf' hsz]
    rw [run_cells (by rw [← r1.1, r2]) r3]
    rfl
  · obtain ⟨u', k1, k2⟩ := r1.at (i := 0) rfl
    refine ⟨u', k2, ?_⟩
    have := r3 0 u' k1
    rw [Nat.add_zero] at this
    unfold execOp
    rw [h1]
    simp only [Instr.loadAt, e3, Instr.sureAddr, loadVar, Sem.run_bind, Sem.run_pure, Result.andThen_ok, run_isAgg' hag, Bool.false_eq_true, if_false, run_load, this]

/-- Where operations have come up in some order, the rest may come up in any. -/
theorem any_order (hE : E.P = P) (hc : CallOK Φ P call) {R : Nat → Rec} {c0 : Ctx} {D0 : Nat → Prop} {H0 : Nat → Option AObj} {w0 : World} {n0 n1 m : Nat} (T : TI P E call ops tm0 R D0 H0 n0 n1 m) {a0 : Act} (hG0 : Glob (zId P) c0 D0)
    {Q : Exit → Act → World → Prop}
    (hQ : ∀ c D F a w, OH Φ P ops R c0 D0 H0 w0 n0 n1 m (fun j => decide (j < ops.toList.length)) c D F w → F = fullTo R H0 ops.toList.length → LR (zId P) c D (text ops.toList tm0 R ops.toList.length) a.tmps.toList → a.defers = a0.defers → Q .normal a w) :
    ∀ (fuel : Nat) (listed : Array Bool) (c : Ctx) (D : Nat → Prop) (F : Nat → Option AObj) (a : Act) (w : World), listed.size = ops.size → listed.toList.countP (fun b => !b) = fuel →
      (∀ j k, listed.getD j false = true → ((masks ops.toList []).getD j 0).testBit k = true → listed.getD k false = true) →
      OH Φ P ops R c0 D0 H0 w0 n0 n1 m (fun j => listed.getD j false) c D F w → LR (zId P) c D (tmSel R (fun j => listed.getD j false) ops.toList 0 tm0) a.tmps.toList → a.defers = a0.defers →
      wpAny P .any ops Q fuel listed a w := by
  -- all have come up
  have fin : ∀ (listed : Array Bool) (c : Ctx) (D : Nat → Prop) (F : Nat → Option AObj) (a : Act) (w : World), listed.size = ops.size → (∀ j, j < ops.size → listed.getD j false = true) →
      OH Φ P ops R c0 D0 H0 w0 n0 n1 m (fun j => listed.getD j false) c D F w → LR (zId P) c D (tmSel R (fun j => listed.getD j false) ops.toList 0 tm0) a.tmps.toList → a.defers = a0.defers → Q .normal a w := by
    intro listed c D F a w hs hall I hT hd
    have hlen : ops.toList.length = ops.size := Array.length_toList
    have hex : (fun j => listed.getD j false) = fun j => decide (j < ops.toList.length) := by
      funext j
      by_cases hj : j < ops.size
      · rw [hall j hj, hlen]; simp [hj]
      · rw [hlen, decide_eq_false hj, Array.getD_eq_getD_getElem?, Array.getElem?_eq_none (by omega)]; rfl
    rw [hex] at I hT
    refine hQ c D F a w I ?_ hT hd
    rcases I.form with ⟨f1, f2⟩ | ⟨t, ht, ht3, hFt, htj⟩
    · funext p
      rw [f2, fullTo_sel _ p fun j hj => f1 j (by simpa using hj) hj]
      exact selTo_congr _ p fun j hj _ _ => by simpa using hj
    · rw [hFt]
      exact (full_end ht3 _ ht fun j hj hj2 => (htj j hj hj2).1 (by simpa using hj)).symm
  intro fuel
  induction fuel with
  | zero =>
    intro listed c D F a w hs hcnt hcl I hT hd
    have hall : ∀ j, j < ops.size → listed.getD j false = true := by
      intro j hj
      have hj' : j < listed.toList.length := by rw [Array.length_toList]; omega
      have := List.countP_eq_zero.1 hcnt (listed.toList[j]) (List.getElem_mem hj')
      rw [Array.getD_eq_getD_getElem?, ← Array.getElem?_toList, List.getElem?_eq_getElem hj']
      simpa using this
    refine ⟨?_, fin listed c D F a w hs hall I hT hd⟩
    rw [List.eq_nil_iff_forall_not_mem]
    intro i hir
    obtain ⟨h1, oi, h2, _⟩ := mem_ready.1 hir
    have hlt : i < ops.size := (Array.getElem?_eq_some_iff.1 h2).1
    have := hall i hlt
    rw [Array.getD_eq_getD_getElem?, Array.getElem?_eq_getElem (by omega)] at this h1
    simp only [Option.getD_some] at this h1
    rw [h1] at this; cases this
  | succ fuel ih =>
    intro listed c D F a w hs hcnt hcl I hT hd
    have notlisted : ∀ j, j < ops.size → listed.getD j false = false → listed.getD j true = false := by
      intro j hj h
      rw [Array.getD_eq_getD_getElem?, Array.getElem?_eq_getElem (by omega)] at h ⊢
      exact h
    refine ⟨fun hnil => ?_, fun i hir => ?_⟩
    · exfalso
      -- the first that has not come up is ready
      have hex : ∃ j, j < ops.size ∧ listed.getD j false = false := by
        refine Classical.byContradiction fun hno => ?_
        have : listed.toList.countP (fun b => !b) = 0 := by
          rw [List.countP_eq_zero]
          intro b hb
          obtain ⟨j, hj⟩ := List.mem_iff_getElem?.1 hb
          have hjl : j < ops.size := by have := (List.getElem?_eq_some_iff.1 hj).1; rw [Array.length_toList] at this; omega
          cases b with
          | true => simp
          | false =>
            exfalso
            refine hno ⟨j, hjl, ?_⟩
            rw [Array.getD_eq_getD_getElem?, ← Array.getElem?_toList, hj]; rfl
        omega
      have least : ∀ k j, j ≤ k → j < ops.size → listed.getD j false = false → ∃ i, i < ops.size ∧ listed.getD i false = false ∧ ∀ q, q < i → listed.getD q false = true := by
        intro k
        induction k with
        | zero => intro j h1 h2 h3; exact ⟨j, h2, h3, fun q hq => by omega⟩
        | succ k ihk =>
          intro j h1 h2 h3
          by_cases hq : ∃ q, q < j ∧ listed.getD q false = false
          · obtain ⟨q, hq1, hq2⟩ := hq
            exact ihk q (by omega) (by omega) hq2
          · refine ⟨j, h2, h3, fun q hqj => ?_⟩
            cases hb : listed.getD q false with
            | true => rfl
            | false => exact absurd ⟨q, hqj, hb⟩ hq
      obtain ⟨j, hj1, hj2⟩ := hex
      obtain ⟨i, hi1, hi2, hi3⟩ := least j j (Nat.le_refl _) hj1 hj2
      have hmem : i ∈ Region.ready .any ops listed := by
        rw [mem_ready]
        refine ⟨notlisted i hi1 hi2, ops[i], Array.getElem?_eq_getElem hi1, fun e he hb => hi3 _ ?_⟩
        exact (T.pr i ops[i] (by rw [Array.getElem?_toList]; exact Array.getElem?_eq_getElem hi1)).1 e (by simpa using he) hb
      rw [hnil] at hmem; cases hmem
    · obtain ⟨h1, oi, h2, h3⟩ := mem_ready.1 hir
      have hlt : i < ops.size := (Array.getElem?_eq_some_iff.1 h2).1
      have hi : ops.toList[i]? = some oi := by rw [Array.getElem?_toList]; exact h2
      have hil : i < ops.toList.length := by rw [Array.length_toList]; exact hlt
      have hex : listed.getD i false = false := by
        rw [Array.getD_eq_getD_getElem?, Array.getElem?_eq_getElem (by omega)] at h1 ⊢
        exact h1
      have hmask : ∀ k, ((masks ops.toList []).getD i 0).testBit k = true → listed.getD k false = true := by
        intro k hk
        obtain ⟨e, he, hb, h4⟩ := mask_bits hi hk
        have := h3 e (by simpa using he) hb
        rcases h4 with rfl | h4
        · exact this
        · exact hcl _ _ this h4
      have hlook : ∀ t, t ∈ oi.looksAt ops → (tmSel R (fun j => listed.getD j false) ops.toList 0 tm0)[t]? = (text ops.toList tm0 R i)[t]? := fun t ht => looks_same T hi hex hmask hcl ht
      have hoo : opOK (zId P) oi = true := by
        have := T.ok
        unfold opsOK at this
        rw [allL_eq] at this
        exact this oi (List.mem_of_getElem? hi)
      have hG : Glob (zId P) c D := fun g hg => ⟨I.dom2 g (hG0 g hg).1, by rw [(I.agree g (by have := T.z; omega)).1]; exact (hG0 g hg).2⟩
      -- the next place
      have hset : ∀ j, (listed.setIfInBounds i true).getD j false = exI (fun j => listed.getD j false) i j := by
        intro j
        show _ = (listed.getD j false || decide (j = i))
        rw [Array.getD_eq_getD_getElem?, Array.getD_eq_getD_getElem?, Array.getElem?_setIfInBounds]
        by_cases hji : j = i
        · subst hji; rw [if_pos rfl, if_pos (by omega)]; simp
        · rw [if_neg (fun e => hji e.symm)]; simp [hji]
      have hsetf : (fun j => (listed.setIfInBounds i true).getD j false) = exI (fun j => listed.getD j false) i := funext hset
      have hcl' : ∀ j k, (listed.setIfInBounds i true).getD j false = true → ((masks ops.toList []).getD j 0).testBit k = true → (listed.setIfInBounds i true).getD k false = true := by
        intro j k hj hk
        rw [hset] at hj ⊢
        rcases exI_true hj with h | rfl
        · exact exI_of (hcl j k h hk)
        · exact exI_of (hmask k hk)
      have hcnt' : (listed.setIfInBounds i true).toList.countP (fun b => !b) = fuel := by
        rw [Array.toList_setIfInBounds]
        have hl : listed.toList[i]? = some false := by
          rw [Array.getD_eq_getD_getElem?, ← Array.getElem?_toList, List.getElem?_eq_getElem (by rw [Array.length_toList]; omega)] at hex
          rw [List.getElem?_eq_getElem (by rw [Array.length_toList]; omega)]
          simpa using hex
        have := cnt_set _ _ hl
        omega
      have hs' : (listed.setIfInBounds i true).size = ops.size := by simpa using hs
      have go : ∀ c' D' F' a' w', OH Φ P ops R c0 D0 H0 w0 n0 n1 m (exI (fun j => listed.getD j false) i) c' D' F' w' → LR (zId P) c' D' (putT (tmSel R (fun j => listed.getD j false) ops.toList 0 tm0) oi.dst (R i).v) a'.tmps.toList →
          a'.defers = a0.defers → wpAny P .any ops Q fuel (listed.setIfInBounds i true) a' w' := by
        intro c' D' F' a' w' I' hT' hd'
        refine ih _ c' D' F' a' w' hs' hcnt' hcl' ?_ ?_ hd'
        · rw [hsetf]; exact I'
        · rw [hsetf, put_same T hi hex hcl]; exact hT'
      -- no memory: the same memory
      have same : (R i).kind < 2 → OH Φ P ops R c0 D0 H0 w0 n0 n1 m (exI (fun j => listed.getD j false) i) c D F w := by
        intro hk
        refine ⟨I.hr, ?_, fun k hk1 hk2 => I.fresh k hk1 (exI_false hk2).1, I.agree, I.dom1, I.dom2, I.os, I.tape, I.output, I.size, I.far, I.live⟩
        rcases I.form with ⟨f1, f2⟩ | ⟨t, ht, ht3, hFt, htj⟩
        · refine .inl ⟨fun j hj hjl => ?_, fun p => ?_⟩
          · rcases exI_true hj with h | rfl
            · exact f1 j h hjl
            · omega
          · rw [f2]
            refine selTo_congr _ p fun j hj hj2 _ => ?_
            have hji : j ≠ i := fun e => by rw [e] at hj2; omega
            unfold exI
            simp [hji]
        · refine .inr ⟨t, ht, ht3, hFt, fun j hj hj2 => ⟨fun h => ?_, fun h => ?_⟩⟩
          · rcases exI_true h with h | rfl
            · exact (htj j hj hj2).1 h
            · omega
          · exact exI_of ((htj j hj hj2).2 h)
      have C := T.cr i oi hi
      unfold wpOp
      simp only [h2]
      rw [← wanted_eq hT ops oi, wanted_same hlook]
      by_cases hk0 : (R i).kind = 0
      · obtain ⟨k1, k2⟩ := C.k0 hk0
        rw [k1, if_neg (by simp)]
        refine go c D F _ w (same (by omega)) ?_ (by rw [← hd]; cases oi.dst <;> rfl)
        rw [k2]; exact hT.put .undef _
      · by_cases hk1 : (R i).kind = 1
        · obtain ⟨k1, k2⟩ := C.k1 hk1
          rw [k1, if_pos rfl]
          refine .inl ?_
          rcases k2 with k2 | ⟨ad, n, cs, q1, q2, q3, q4⟩
          · rw [pop_congr oi (fun x hx => (aeval_same hlook x hx).symm)] at k2
            obtain ⟨v', k3, k4⟩ := pop_sound (ev1_rel hT hG) oi _ k2
            unfold Oper.wp
            rw [ev1_op hoo, k4 w]
            exact go c D F _ w (same (by omega)) (hT.put k3 _) (by rw [← hd]; cases oi.dst <;> rfl)
          · -- a load that reads the same whenever it comes up
            have hF : cellsF F ad n = some cs := by
              rcases I.form with ⟨f1, f2⟩ | ⟨t, ht, ht3, hFt, htj⟩
              · have hFb : F ad.block = H0 ad.block := by
                  rw [f2]
                  rcases selTo_of (R := R) (H0 := H0) (sel := fun j => listed.getD j false) ops.toList.length ad.block with h | ⟨j, j1, j2, j3, j4⟩
                  · exact h
                  · exfalso
                    have Cj := T.cr j _ (List.getElem?_eq_getElem j1)
                    have b1 := (Cj.kr j2).1
                    have b2 := (Cj.k2 (by omega)).2.2.2.2.1
                    have := j4.1
                    omega
                rcases q4 with ⟨j, j1, j2, j3, _⟩ | ⟨q5, _⟩
                · exact absurd j2 (f1 j (hmask j j3) (by omega))
                · unfold cellsF at q5 ⊢; rw [hFb]; exact q5
              · rw [hFt]
                rcases Nat.lt_or_ge t i with hti | hti
                · rcases q4 with ⟨j, j1, j2, j3, j4⟩ | ⟨_, q5⟩
                  · exact j4 t ((htj j (by omega) (by omega)).1 (hmask j j3)) hti ht3
                  · exact q5 t hti ht3
                · have hne : i ≠ t := fun e => by rw [e] at hk1; omega
                  have Ct := T.cr t _ (List.getElem?_eq_getElem ht)
                  rcases (Ct.k3 ht3).2.2 i (by omega) ad n cs q1 with h | h
                  · have := hcl t i ((htj t ht (by omega)).2 (Nat.le_refl _)) h
                    rw [hex] at this; cases this
                  · exact h
            obtain ⟨v', k3, k4⟩ := still_run (ev' := ev1 (zId P) a) I.hr hF (q3.congr fun x hx => aeval_same hlook x hx) (ev1_rel hT hG)
            unfold Oper.wp
            rw [ev1_op hoo, k4]
            exact go c D F _ w (same (by omega)) (hT.put k3 _) (by rw [← hd]; cases oi.dst <;> rfl)
        · have hk2 : 2 ≤ (R i).kind := by omega
          obtain ⟨k1, k2, k3, k4, k5, _⟩ := C.k2 hk2
          rw [k1, if_pos rfl]
          refine .inl ?_
          have hz : zId P < (R i).i.next := by have := T.z; omega
          have hmo := doOp_mono hc k2 hz
          obtain ⟨hHR, hnext⟩ := I.touch T hi hex hmask hcl hk2 hmo
          rw [doOp_congr oi _ (fun x hx => (aeval_same hlook x hx).symm)] at k2
          have hfr := I.fresh i hil hex hk2
          refine doOp_sound hE hc k2 hz k4 hHR hG hfr (ev1_rel hT hG) (ev1_op hoo) fun c' v' w' hst hv => ?_
          obtain ⟨F', I'⟩ := hnext c' w' hst
          refine go c' _ F' _ w' I' ?_ (by rw [← hd]; cases oi.dst <;> rfl)
          exact (hT.mono (fun p hp => hst.agree p fun ⟨h5, h6⟩ => hfr p h5 h6 hp) (fun p hp => .inl hp)).put hv _
end
end Go.Proofs.Ytlkjdclhgmkndaa.Canon
