/-
  Calls; what is called with numbers alone.
-/
import Derived.Test.YtlkjdclhgmkndaaCanonT
namespace Go.Proofs.Ytlkjdclhgmkndaa.Canon
set_option linter.unusedVariables false
set_option linter.unusedSimpArgs false
open Go.RowKit
section
variable {Φ : Fx} {P : Program} {E : Env}

def resF (tmps : Array Value) : ResultVar → Sem Value
  | .tmp t => pure (tmps.getD t undef)
  | .cell a t => do loadVar t (← asAddr (tmps.getD a undef))

theorem tmp_rel {c : Ctx} {D : Nat → Prop} {Z : Nat} {tm : List Value} {tmps : Array Value} (h : LR Z c D tm tmps.toList) (t : Nat) : VR Z c D (match nth tm t with | some v => v | none => undef) (tmps.getD t undef) := by
  rw [nth_eq]
  cases ht : tm[t]? with
  | none =>
    have : tmps.toList[t]? = none := by rw [List.getElem?_eq_none]; rw [← h.1]; exact List.getElem?_eq_none_iff.1 ht
    have : tmps.getD t undef = undef := by
      rw [Array.getElem?_toList] at this
      simp [this]
    rw [this]; exact .undef
  | some v =>
    obtain ⟨v', h1, h2⟩ := h.at ht
    have : tmps.getD t undef = v' := by
      rw [Array.getElem?_toList] at h1
      simp [h1]
    rw [this]; exact h2

theorem resultsOf_run {c : Ctx} {D : Nat → Prop} {w : World} {s : St} (h : HR Φ P c D s.heap w) {tm : List Value} {tmps : Array Value} (hT : LR (zId P) c D tm tmps.toList) :
    ∀ (rs : List ResultVar) (l : List Value), resultsOf P tm s rs = some l → ∃ l', LR (zId P) c D l l' ∧
      (rs.mapM (resF tmps)).run P w = .ok l' w
  | [], l, hr => by
    simp only [resultsOf, Option.some.injEq] at hr
    subst hr
    exact ⟨[], .nil, rfl⟩
  | .tmp t :: rs, l, hr => by
    unfold resultsOf at hr
    split at hr
    · rename_i l1 h1
      simp only [Option.some.injEq] at hr
      subst hr
      obtain ⟨l', k1, k2⟩ := resultsOf_run h hT rs l1 h1
      refine ⟨_ :: l', .cons (tmp_rel hT t) k1, ?_⟩
      have hx : (resF tmps (.tmp t)).run P w = .ok (tmps.getD t undef) w := rfl
      rw [List.mapM_cons]
      simp only [Sem.run_bind, hx, Sem.run_pure, Result.andThen_ok, k2]
    · cases hr
  | .cell a t :: rs, l, hr => by
    unfold resultsOf at hr
    split at hr
    · rename_i ad sz l1 ha hag hsz h1
      split at hr
      · rename_i cs hcs
        simp only [Option.some.injEq] at hr
        subst hr
        obtain ⟨l', k1, k2⟩ := resultsOf_run h hT rs l1 h1
        rw [nth_eq] at ha
        obtain ⟨v', q1, q2⟩ := hT.at ha
        obtain ⟨o, off, rfl, e3, hd⟩ := ptr_inv q2
        have e4 : tmps.getD a undef = .pointer (some ⟨c.ρ o, off, none⟩) := by
          rw [Array.getElem?_toList] at q1; rw [Array.getD_eq_getD_getElem?, q1, e3]; rfl
        obtain ⟨l2, r1, r2, r3, r4⟩ := read_cells h hcs
        refine ⟨_ :: l', .cons (VR.agg_of r1) k1, ?_⟩
        have hx : (resF tmps (.cell a t)).run P w = .ok (.agg l2.toArray) w := by
          simp only [resF, Sem.run_bind, e4, asAddr, Sem.run_pure, Result.andThen_ok, loadVar, run_isAgg' hag, if_true, run_sizeOf' hsz]
          rw [run_cells (by rw [← r1.1, r2]) r3]
          rfl
        rw [List.mapM_cons]
        simp only [Sem.run_bind, hx, Sem.run_pure, Result.andThen_ok, k2]
      · cases hr
    · rename_i ad sz l1 ha hag hsz h1
      split at hr
      · rename_i u hcs
        simp only [Option.some.injEq] at hr
        subst hr
        obtain ⟨l', k1, k2⟩ := resultsOf_run h hT rs l1 h1
        rw [nth_eq] at ha
        obtain ⟨v', q1, q2⟩ := hT.at ha
        obtain ⟨o, off, rfl, e3, hd⟩ := ptr_inv q2
        have e4 : tmps.getD a undef = .pointer (some ⟨c.ρ o, off, none⟩) := by
          rw [Array.getElem?_toList] at q1; rw [Array.getD_eq_getD_getElem?, q1, e3]; rfl
        obtain ⟨l2, r1, r2, r3, r4⟩ := read_cells h hcs
        obtain ⟨u', p1, p2⟩ := r1.at (i := 0) rfl
        have := r3 0 u' p1
        rw [Nat.add_zero] at this
        refine ⟨u' :: l', .cons p2 k1, ?_⟩
        have hx : (resF tmps (.cell a t)).run P w = .ok u' w := by
          simp only [resF, Sem.run_bind, e4, asAddr, Sem.run_pure, Result.andThen_ok, loadVar, run_isAgg' hag, Bool.false_eq_true, if_false, run_load, this]
        rw [List.mapM_cons]
        simp only [Sem.run_bind, hx, Sem.run_pure, Result.andThen_ok, k2]
      · cases hr
    · cases hr

theorem one_rel {c : Ctx} {D : Nat → Prop} {l l' : List Value} (h : LR (zId P) c D l l') : VR (zId P) c D (one l) (if h : l'.toArray.size = 1 then l'.toArray[0] else .tuple l'.toArray) := by
  unfold one
  split
  · rename_i v
    obtain ⟨v', r', rfl, h1, h2⟩ := h.inv_cons
    rw [h2.inv_nil]
    exact h1
  · rename_i l2 hn
    rw [dif_neg]
    · exact VR.tuple_of h
    · intro hs
      rw [List.size_toArray, ← h.1] at hs
      obtain ⟨x, hx⟩ := List.length_eq_one_iff.1 hs
      exact hn x hx

theorem results_run {c : Ctx} {D : Nat → Prop} {w : World} {s : St} (h : HR Φ P c D s.heap w) {tm : List Value} {tmps : Array Value} (hT : LR (zId P) c D tm tmps.toList) {fn : Func} {l : List Value}
    (hl : resultsOf P tm s fn.results.toList = some l) : ∃ v', VR (zId P) c D (one l) v' ∧ (results fn tmps).run P w = .ok v' w := by
  obtain ⟨l', k1, k2⟩ := resultsOf_run h hT _ _ hl
  refine ⟨_, one_rel k1, ?_⟩
  have e : results fn tmps = (do
      let vs ← fn.results.mapM (resF tmps)
      pure (if h : vs.size = 1 then vs[0] else .tuple vs)) := rfl
  rw [e, Array.mapM_eq_mapM_toList]
  simp only [Sem.run_bind, Sem.run_map, k2, Result.andThen_ok, Sem.run_pure]

theorem undefs_eq : ∀ n, undefs n = List.replicate n undef
  | 0 => rfl
  | n + 1 => by rw [undefs, undefs_eq n]; rfl

theorem LR.undefs {c : Ctx} {D : Nat → Prop} {Z : Nat} : ∀ n, LR Z c D (Canon.undefs n) (List.replicate n undef)
  | 0 => .nil
  | n + 1 => .cons .undef (LR.undefs n)

theorem reach_get {n0 : Nat} {h : T AObj} (hb : ∀ o, h.get o ≠ none → o < 4000000) : ∀ (f : Nat) (vs : List Value) (acc : T AObj) (o : Nat),
    (reach n0 h f vs acc).get o = acc.get o ∨ (n0 ≤ o ∧ (reach n0 h f vs acc).get o = h.get o)
  | 0, vs, acc, o => .inl (by unfold reach; rfl)
  | f + 1, [], acc, o => .inl (by unfold reach; rfl)
  | f + 1, v :: vs, acc, o => by
    have block : ∀ (b : Nat) (vs : List Value),
        (bif Nat.blt b n0 then reach n0 h f vs acc
          else match acc.get b with
            | some _ => reach n0 h f vs acc
            | none => match h.get b with
              | none => reach n0 h f vs acc
              | some ob => reach n0 h f (bif allL ground0 ob.cells then vs else app ob.cells vs) (T.set (some ob) deep acc b)).get o = acc.get o ∨
        (n0 ≤ o ∧ (bif Nat.blt b n0 then reach n0 h f vs acc
          else match acc.get b with
            | some _ => reach n0 h f vs acc
            | none => match h.get b with
              | none => reach n0 h f vs acc
              | some ob => reach n0 h f (bif allL ground0 ob.cells then vs else app ob.cells vs) (T.set (some ob) deep acc b)).get o = h.get o) := by
      intro b vs
      cases hlt : Nat.blt b n0 with
      | true => exact reach_get hb f vs acc o
      | false =>
        rw [cond_false]
        have hge : n0 ≤ b := by
          rw [nblt] at hlt; simpa using hlt
        split
        · exact reach_get hb f vs acc o
        · split
          · exact reach_get hb f vs acc o
          · rename_i ob hob
            have hbb := hb b (by rw [hob]; simp)
            rcases reach_get hb f (bif allL ground0 ob.cells then vs else app ob.cells vs) (T.set (some ob) deep acc b) o with h1 | h1
            · rw [h1, get_set _ _ _ _ _ (by unfold deep; omega)]
              by_cases hob2 : o = b
              · rw [if_pos hob2]; exact .inr ⟨by omega, by rw [hob2, hob]⟩
              · rw [if_neg hob2]; exact .inl rfl
            · exact .inr h1
    unfold reach
    split
    · exact block _ _
    · exact block _ _
    · exact reach_get hb f _ acc o
    · exact reach_get hb f _ acc o
    · exact reach_get hb f _ acc o
    · exact reach_get hb f _ acc o
    · exact reach_get hb f _ acc o

/-- A call that wrote nothing of what was there: what is new may be forgotten. -/
theorem Step.quiet {c c' : Ctx} {D : Nat → Prop} {s s' : St} {w w' : World} (h : Step Φ P c c' D s.heap s'.heap s.next s'.next s'.mw w w') (hB : Bd s) (hr : s.next ≤ s'.mw) {H : T AObj} (m : Nat)
    (h1 : ∀ o obj, H.get o = some obj → s'.heap.get o = some obj) (h2 : ∀ o, o < s.next → H.get o = s.heap.get o) : Step Φ P c c' D s.heap H s.next s'.next m w w' := by
  have hno : ¬∃ p, s'.mw ≤ p ∧ s.heap.get p ≠ none := fun ⟨p, h3, h4⟩ => by have := hB.2 p h4; omega
  have hn : ∀ o, H.get o ≠ none → s'.heap.get o ≠ none := fun o ho => by
    obtain ⟨obj, hob⟩ := Option.ne_none_iff_exists'.1 ho
    rw [h1 o obj hob]; simp
  refine ⟨h.le, h.agree, h.hr.sub h1, h.os, h.tape, h.output, h.size, fun b hb _ => h.far b hb fun ⟨p, h3, h4, _⟩ => hno ⟨p, h3, h4⟩, fun o ho => ?_, fun o _ hl => h2 o (hB.2 o hl)⟩
  rcases h.live o (hn o ho) with h3 | ⟨h3, h4, h5 | ⟨p, h6, h7, _⟩⟩
  · exact .inl h3
  · exact .inr ⟨h3, h4, .inl h5⟩
  · exact absurd ⟨p, h6, h7⟩ hno

theorem kept_u64 {c : Ctx} {D : Nat → Prop} {Z n : Nat} {v : Value} (h : VR Z c D (.int .u64 (.ofNat n)) v) : v = .int .u64 (.ofNat n) := kept_int h

theorem byteList_run {c : Ctx} {D : Nat → Prop} {w : World} {H : T AObj} (h : HR Φ P c D H w) {v v' : Value} (hv : VR (zId P) c D v v') {r : List UInt8} (hr : byteList H v = some r) :
    (Extern.Bytes.bytesOf v').run P w = .ok ⟨r.toArray⟩ w := by
  unfold byteList at hr
  split at hr
  · simp only [Option.some.injEq] at hr
    subst hr
    rw [kept_str hv]
    rfl
  · simp only [Option.some.injEq] at hr
    subst hr
    cases hv; rfl
  · rename_i a n cap
    rcases bif_or hr with ⟨h1, h2⟩ | ⟨_, h2⟩
    · rw [Nat.beq_eq] at h1
      subst h1
      simp only [Option.some.injEq] at h2
      subst h2
      cases hv <;> rfl
    · split at h2
      · rename_i l hl
        obtain ⟨ns, k1, k2⟩ := toBytes_eq l r h2
        obtain ⟨o, off, sp⟩ := a
        have hlive : H.get o ≠ none := by
          unfold cellsAt at hl
          split at hl
          · rename_i obj ho; dsimp only at ho; rw [ho]; simp
          · cases hl
        cases hv with
        | sl o off l2 cp hd hz2 =>
          obtain ⟨l', r1, r2, r3, r4⟩ := read_cells h hl
          have g : allL Canon.ground0 l = true := by
            rw [k1, allL_eq]; intro y hy
            obtain ⟨z, _, rfl⟩ := List.mem_map.1 hy
            rfl
          have e : l' = l := r1.ground0 g
          have hn : ns.length = n := by rw [← r2, k1]; simp
          have := Lib.run_loadBytesX (P := P) (w := w) ns ⟨c.ρ o, off, none⟩ .empty (fun j x hj => by
            rw [addr_add]
            refine r3 j _ ?_
            rw [e, k1, List.getElem?_map, hj]; rfl)
          rw [hn] at this
          refine this.trans ?_
          rw [k2]
          simp [Lib.bytesOf, UInt8.ofNat]
        | z0 a2 => exact absurd rfl (h.dom _ hlive).2.1
        | z1 a2 cp => exact absurd rfl (h.dom _ hlive).2.1
      · cases h2
  · cases hr

theorem ext_sound {f : FuncId} {fn : Func} (hfn : P.funcs[f]? = some fn) (hb : fn.body = none) (hname : (fn.name == "runtime.NumGoroutine") = false) (ho : fn.origin = "") {args : List Value} {s : St} {v : Value}
    (h : ext fn.name args s = some v) : ∃ fn row, P.funcs[f]? = some fn ∧ fn.body.isNone = true ∧ (fn.name == "runtime.NumGoroutine") = false ∧ Extern.findNext fn = none ∧ Extern.find fn = some row ∧
    ∀ c D w args', HR Φ P c D s.heap w → LR (zId P) c D args args' → ∃ v', VR (zId P) c D v v' ∧ (row args'.toArray).run P w = .ok v' w := by
  unfold ext at h
  rcases bif_or h with ⟨h1, h⟩ | ⟨_, h⟩
  · have hn : fn.name = "math/bits.Add64" := by simpa using h1
    split at h
    · rename_i x y k hold
      obtain ⟨g1, g2⟩ := bif_inv h
      simp only [Option.some.injEq] at g2
      subst g2
      rw [Nat.ble_eq] at g1
      refine ⟨fn, (Extern.MathBitsCarry.rows[0]'(by decide)).2, hfn, by rw [hb]; rfl, hname, ?_, ?_, fun c D w args' hH hA => ?_⟩
      · unfold Extern.findNext; rw [hn, ho]; rfl
      · unfold Extern.find; rw [hn]; rfl
      · obtain ⟨v1, r1, rfl, a1, a2⟩ := hA.inv_cons
        obtain ⟨v2, r2, rfl, a3, a4⟩ := a2.inv_cons
        obtain ⟨v3, r3, rfl, a5, a6⟩ := a4.inv_cons
        rw [kept_int a1, kept_int a3, kept_int a5, a6.inv_nil]
        refine ⟨_, .tuple_of (LR.cons (.int _ _) (LR.cons (.int _ _) LR.nil)), ?_⟩
        have h3 : (Extern.MathBitsCarry.three "Add64" #[.int .u64 (.ofNat x), .int .u64 (.ofNat y), .int .u64 (.ofNat k)]).run P w = .ok (x, y, k) w := by
          have : k = 0 ∨ k = 1 := by omega
          rcases this with rfl | rfl <;> rfl
        show (Extern.MathBitsCarry.three "Add64" _ >>= _).run P w = _
        rw [Sem.run_bind, h3, Result.andThen_ok]
        rfl
    · cases h
  · rcases bif_or h with ⟨h1, h⟩ | ⟨_, h⟩
    · have hn : fn.name = "internal/bytealg.Compare" := by simpa using h1
      split at h
      · rename_i a b
        split at h
        · rename_i x y hx hy
          simp only [Option.some.injEq] at h
          subst h
          refine ⟨fn, Extern.BytealgCompare.compare, hfn, by rw [hb]; rfl, hname, ?_, ?_, fun c D w args' hH hA => ?_⟩
          · unfold Extern.findNext; rw [hn, ho]; rfl
          · unfold Extern.find; rw [hn]; rfl
          · obtain ⟨v1, r1, rfl, a1, a2⟩ := hA.inv_cons
            obtain ⟨v2, r2, rfl, a3, a4⟩ := a2.inv_cons
            rw [a4.inv_nil]
            refine ⟨_, .int _ _, ?_⟩
            show (do pure (goInt (Extern.BytealgCompare.cmp (← Extern.Bytes.bytesOf v1) (← Extern.Bytes.bytesOf v2))) : Sem Value).run P w = _
            simp only [Sem.run_bind, byteList_run hH a1 hx, byteList_run hH a3 hy, Result.andThen_ok, Sem.run_pure]
            rw [Lib.cmp_eq]
            rfl
        · cases h
      · cases h
    · cases h

/-- A call that turned nothing of what was there. -/
theorem Step.of_below {c : Ctx} {D : Nat → Prop} {H : T AObj} {n m : Nat} {w w' : World} (h : HR Φ P c D H w) (hb : Below w.heap.size w w') : Step Φ P c c D H H n n m w w' where
  le := Nat.le_refl _
  agree := fun _ _ => ⟨rfl, rfl⟩
  hr := by
    have e : (fun o => D o ∨ (n ≤ o ∧ o < n)) = D := by funext o; simp; omega
    rw [e]
    refine ⟨h.dom, fun o obj ho => ?_, h.inj, h.belOf hb.os hb.tape hb.output hb.size (fun b hb' => hb.block b (Nat.lt_of_lt_of_le hb' h.bel.size)), h.up, h.nm⟩
    have hr := h.rows o obj ho
    obtain ⟨cs, fr, k1, k2, k3, k4⟩ := hr.row
    exact ⟨hr.ex, cs, fr, by rw [hb.block _ hr.lt]; exact k1, k2, k3, k4⟩
  os := hb.os
  tape := hb.tape
  output := hb.output
  size := hb.size
  far := fun b hlt _ => hb.block b hlt
  live := fun o ho => .inl ho
  same := fun _ _ _ => rfl

theorem callN_sound (hE : E.P = P) (hEo : EnvOK Φ E) : ∀ d, CallOK Φ P (callN E d)
  | 0 => fun f args s v s' h => by cases h
  | d + 1 => by
    intro f args s v s' h hZ
    unfold callN at h
    split at h
    · cases h
    · rename_i fn hfn
      have hfn' := hEo.fn f fn hfn
      rw [hE] at hfn'
      split at h
      · rename_i hbody
        obtain ⟨ho, h⟩ := bif_inv h
        split at h
        · rename_i v1 hx
          simp only [Option.some.injEq, Prod.mk.injEq] at h
          obtain ⟨rfl, rfl⟩ := h
          exact ⟨.refl _, .inr ⟨rfl, ext_sound hfn' hbody (hEo.name f fn hfn) (by simpa using ho) hx⟩⟩
        · cases h
      · rename_i code hbody
        rcases bif_or h with ⟨hk, h⟩ | ⟨_, h⟩
        · simp only [Option.some.injEq, Prod.mk.injEq] at h
          obtain ⟨rfl, rfl⟩ := h
          have hk1 : E.known f = true := by
            cases hkf : E.known f with
            | true => rfl
            | false => rw [hkf] at hk; cases hk
          have hk2 : noArg args = true := by rw [hk1] at hk; exact hk
          refine ⟨.refl _, .inl ⟨⟨fn, hfn', by rw [hbody]; rfl, hEo.name f fn hfn⟩, fun c D w args' hB hH hG hf hA => ?_⟩⟩
          have ha : args = [] := by cases args with
            | nil => rfl
            | cons _ _ => cases hk2
          subst ha
          rw [hA.inv_nil]
          have := hEo.known f hk1 w
          rw [hE] at this
          exact this.mono fun e w' hp => ⟨c, .bool true, hp.1, Step.of_below hH hp.2, .bool true⟩
        cases hor : E.orc f args with
        | some u =>
          rw [hor] at h
          simp only [Option.some.injEq, Prod.mk.injEq] at h
          obtain ⟨rfl, rfl⟩ := h
          refine ⟨.refl _, .inl ⟨⟨fn, hfn', by rw [hbody]; rfl, hEo.name f fn hfn⟩, fun c D w args' hB hH hG hf hA => ?_⟩⟩
          have := hEo.orc f args _ hor c D w args' hH.bel hH.nm (by rw [hE]; exact hA)
          rw [hE] at this
          exact this.mono fun e w' ⟨v', h1, h2, h3⟩ => ⟨c, v', h1, Step.of_below hH h3, by rw [Dm.nil]; exact h2⟩
        | none =>
        rw [hor] at h
        simp only at h
        split at h
        · rename_i x tm' s1 hex
          obtain ⟨m1, k1⟩ := exec_sound hE (callN_sound hE hEo d) (by rw [← hE]; exact hEo.mixed) code _ _ x tm' s1 hex hZ
          have hnx : ∀ id, x ≠ .exit id := by
            rintro id rfl
            cases h
          have h' : (match resultsOf E.P tm' s1 fn.results.toList with
            | some l =>
              let v := one l
              bif Nat.ble s.next s1.mw then
                (bif ground2 v then some (v, { next := s1.next, mw := s.mw, heap := s.heap })
                else some (v, { next := s1.next, mw := s.mw, heap := reach s.next s1.heap 1000000 [v] s.heap }))
              else some (v, { next := s1.next, mw := Nat.min s.mw s1.mw, heap := s1.heap })
            | none => none : Option (Value × St)) = some (v, s') := by
            cases x with
            | exit id => exact absurd rfl (hnx id)
            | normal => exact h
            | ret => exact h
          clear h
          split at h'
          · rename_i l hl
            rw [hE] at hl
            -- what is left of memory
            have hfinal : v = one l ∧ Mo s s' ∧ s'.next = s1.next ∧ ∀ c c' D w w', Bd s → Step Φ P c c' D s.heap s1.heap s.next s1.next s1.mw w w' → Step Φ P c c' D s.heap s'.heap s.next s'.next s'.mw w w' := by
              simp only at h'
              cases hr : Nat.ble s.next s1.mw with
              | true =>
                rw [hr, cond_true] at h'
                rw [Nat.ble_eq] at hr
                have quiet : ∀ H : T AObj, (Bd s → (∀ o obj, H.get o = some obj → s1.heap.get o = some obj) ∧ ∀ o, o < s.next → H.get o = s.heap.get o) →
                    Mo s ⟨s1.next, s.mw, H⟩ ∧ ∀ c c' D w w', Bd s → Step Φ P c c' D s.heap s1.heap s.next s1.next s1.mw w w' → Step Φ P c c' D s.heap H s.next s1.next s.mw w w' := by
                  intro H hH
                  refine ⟨⟨m1.1, Nat.le_refl _, fun hB => ?_⟩, fun c c' D w w' hB hst => ?_⟩
                  · obtain ⟨q1, q2⟩ := hH hB
                    have b1 := (m1.2.2 hB).1
                    refine ⟨⟨b1.1, fun o ho => ?_⟩, fun o _ h2 => q2 o h2⟩
                    obtain ⟨obj, hob⟩ := Option.ne_none_iff_exists'.1 ho
                    exact b1.2 o (by rw [q1 o obj hob]; simp)
                  · obtain ⟨q1, q2⟩ := hH hB
                    exact Step.quiet (s := s) (s' := s1) hst hB hr s.mw q1 q2
                cases hg : ground2 (one l) with
                | true =>
                  rw [hg, cond_true] at h'
                  simp only [Option.some.injEq, Prod.mk.injEq] at h'
                  obtain ⟨rfl, rfl⟩ := h'
                  obtain ⟨q1, q2⟩ := quiet s.heap fun hB => ⟨fun o obj ho => by
                    have hlt := hB.2 o (by rw [ho]; simp)
                    rw [(m1.2.2 hB).2 o (by omega) hlt]; exact ho, fun _ _ => rfl⟩
                  exact ⟨rfl, q1, rfl, q2⟩
                | false =>
                  rw [hg, cond_false] at h'
                  simp only [Option.some.injEq, Prod.mk.injEq] at h'
                  obtain ⟨rfl, rfl⟩ := h'
                  obtain ⟨q1, q2⟩ := quiet (reach s.next s1.heap 1000000 [one l] s.heap) fun hB => by
                    have b1 := (m1.2.2 hB).1
                    have hrg := reach_get (n0 := s.next) (h := s1.heap) (fun o ho => by have := b1.2 o ho; have := b1.1; omega) 1000000 [one l] s.heap
                    refine ⟨fun o obj ho => ?_, fun o ho => ?_⟩
                    · rcases hrg o with h1 | ⟨_, h1⟩
                      · rw [h1] at ho
                        have hlt := hB.2 o (by rw [ho]; simp)
                        rw [(m1.2.2 hB).2 o (by omega) hlt]; exact ho
                      · rw [← h1]; exact ho
                    · rcases hrg o with h1 | ⟨h2, _⟩
                      · exact h1
                      · omega
                  exact ⟨rfl, q1, rfl, q2⟩
              | false =>
                rw [hr, cond_false] at h'
                simp only [Option.some.injEq, Prod.mk.injEq] at h'
                obtain ⟨rfl, rfl⟩ := h'
                refine ⟨rfl, ⟨m1.1, Nat.min_le_left _ _, fun hB => ?_⟩, rfl, fun c c' D w w' hB hst => hst.weaken (Nat.min_le_right _ _)⟩
                obtain ⟨b1, b2⟩ := m1.2.2 hB
                exact ⟨b1, fun o h1 h2 => b2 o (Nat.lt_of_lt_of_le h1 (Nat.min_le_right _ _)) h2⟩
            obtain ⟨rfl, hmo, hnext, hstep⟩ := hfinal
            refine ⟨hmo, .inl ⟨⟨fn, hfn', by rw [hbody]; rfl, hEo.name f fn hfn⟩, fun c D w args' hB hH hG hf hA => ?_⟩⟩
            refine calls_of_wp hfn' hbody ?_
            have hT : LR (zId P) c D (app args (undefs (fn.ntmps - lenN args 0))) (args'.toArray ++ Array.replicate (fn.ntmps - args'.toArray.size) undef).toList := by
              rw [app_eq, lenN_eq, Nat.add_zero, Array.toList_append, Array.toList_replicate, List.size_toArray, ← hA.1]
              exact hA.append (LR.undefs _)
            refine k1 c D w _ _ hB hH hG (by rw [← hnext]; exact hf) hT fun a' w' hb => ?_
            obtain ⟨c', st, l1, d1⟩ := hb
            obtain ⟨v', p1, p2⟩ := results_run st.hr l1 hl
            have hpost : a'.defers = [] ∧ ∃ v, (results fn a'.tmps).run P w' = .ok v w' ∧ ∃ c' v', Ending.returned v = .returned v' ∧ Step Φ P c c' D s.heap s'.heap s.next s'.next s'.mw w w' ∧ VR (zId P) c' (Dm D s.next s'.next) (one l) v' :=
              ⟨d1, v', p2, c', v', rfl, hstep c c' D w w' hB st, by rw [hnext]; exact p1⟩
            cases x with
            | exit id => exact absurd rfl (hnx id)
            | normal => exact hpost
            | ret => exact hpost
          · cases h'
        · cases h

end
end Go.Proofs.Ytlkjdclhgmkndaa.Canon
