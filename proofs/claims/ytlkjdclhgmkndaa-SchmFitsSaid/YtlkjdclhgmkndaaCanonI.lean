/-
  Operations that touch memory, each.
-/
import Derived.Test.YtlkjdclhgmkndaaCanonH
namespace Go.Proofs.Ytlkjdclhgmkndaa.Canon
set_option linter.unusedVariables false
set_option linter.unusedSimpArgs false
open Go.RowKit
section
variable {Φ : Fx} {c : Ctx} {D : Nat → Prop} {P : Program} {w : World} {s s' : St} {v : Value}

theorem run_bounds3 {len cap l h m : Nat} {lo lo' : Option Value} {k1 k2 : IntKind} (hlo : (lo = none ∧ lo' = none ∧ l = 0) ∨ (∃ k, lo' = some (.int k (l : Int)) ∧ lo ≠ none))
    (h1 : l ≤ h) (h2 : h ≤ m) (h3 : m ≤ cap) (w : World) :
    (Instr.sliceBounds true len cap lo' (some (.int k1 (h : Int))) (some (.int k2 (m : Int)))).run P w = .ok (l, h, m) w := by
  unfold Instr.sliceBounds
  rcases hlo with ⟨rfl, rfl, rfl⟩ | ⟨k, rfl, _⟩ <;>
    simp only [Sem.run_bind, Sem.run_pure, Result.andThen_ok, run_sliceBound _ h1, run_sliceBound _ h2, run_sliceBound _ h3]

theorem slice_run {t e : TypeId} {sz l h m len cap : Nat} {a : Option Addr} {lo hi mx : Option Value} (hu : P.underlying t = some (.slice e)) (hs : size? P e = some sz)
    (hb : ∀ w, (Instr.sliceBounds true len cap lo hi mx).run P w = .ok (l, h, m) w) (w : World) :
    (Instr.sliceAt t (.slice a len cap) lo hi mx).run P w = .ok (.slice (if m = l then a else a.map (·.add (l * sz))) (h - l) (m - l)) w := by
  unfold Instr.sliceAt
  simp only [Sem.run_bind, run_underlying' hu, Result.andThen_ok]
  unfold Instr.slice
  simp only [Sem.run_bind, run_underlying' hu, Result.andThen_ok, hb, run_sizeOf' hs, Sem.run_pure]

theorem sliceOf_run (hH : HR Φ P c D s.heap w) {t e : TypeId} {sz len cap : Nat} {a : Option Addr} {x' : Value} {lo hi mx lo' hi' mx' : Option Value} {v : Value}
    (hu : P.underlying t = some (.slice e)) (hs : size? P e = some sz) (hx : VR (zId P) c D (.slice a len cap) x')
    (hlo : (∀ v, lo = some v → ∃ v', lo' = some v' ∧ VR (zId P) c D v v') ∧ (lo = none → lo' = none))
    (hhi : (∀ v, hi = some v → ∃ v', hi' = some v' ∧ VR (zId P) c D v v') ∧ (hi = none → hi' = none))
    (hmx : (∀ v, mx = some v → ∃ v', mx' = some v' ∧ VR (zId P) c D v v') ∧ (mx = none → mx' = none))
    (h : sliceOf P (isExact s.heap a) sz a len cap lo hi mx = some v) :
    ∃ v', VR (zId P) c D v v' ∧ ∀ w, (Instr.sliceAt t x' lo' hi' mx').run P w = .ok v' w := by
  unfold sliceOf at h
  split at h
  · rename_i l hh m e1 e2 e3
    obtain ⟨h1, h2⟩ := bif_inv h
    rw [Bool.and_eq_true, Bool.and_eq_true, Nat.ble_eq, Nat.ble_eq, Nat.ble_eq] at h1
    obtain ⟨⟨b1, b2⟩, b3⟩ := h1
    have c1 := bound_rel hlo.1 hlo.2 e1
    have c2 := bound_rel hhi.1 hhi.2 e2
    have c3 := bound_rel hmx.1 hmx.2 e3
    split at h2
    · -- no base
      cases mx with
      | some _ => cases h2
      | none =>
      simp only [Option.some.injEq] at h2
      subst h2
      simp only [bound, Option.some.injEq] at e3
      subst e3
      cases hx with
      | snil =>
        rw [hmx.2 rfl]
        refine ⟨_, .snil _ _, fun w => ?_⟩
        rw [slice_run hu hs (fun w => run_bounds2 (isSlice := true) c1 c2 b1 b2 (Nat.le_refl _) w)]
        split <;> rfl
    · rename_i a0
      cases mx with
      | some mv =>
        simp only at h2
        obtain ⟨h3, h4⟩ : hi.isNone = false ∧ _ := by
          cases hn : hi.isNone with
          | true => rw [hn] at h2; cases h2
          | false => rw [hn, cond_false] at h2; exact ⟨rfl, h2⟩
        rcases c3 with ⟨e, _⟩ | ⟨k3, e3', _⟩
        · cases e
        rcases c2 with ⟨e, _⟩ | ⟨k2, e2', _⟩
        · rw [e] at h3; cases h3
        subst e3' e2'
        by_cases hml : m = l
        · rw [nbeq_yes hml, cond_true] at h4
          simp only [Option.some.injEq] at h4
          subst h4 hml
          have hh' : hh = m := by omega
          subst hh'
          cases hx with
          | sl o off l2 cp hd hz =>
            exact ⟨_, .z0 _, fun w => by rw [slice_run hu hs (fun w => run_bounds3 c1 b1 b2 (by omega) w)]; simp; rfl⟩
          | z0 a =>
            exact ⟨_, .z0 _, fun w => by rw [slice_run hu hs (fun w => run_bounds3 c1 b1 b2 (by omega) w)]; simp; rfl⟩
          | z1 a cp =>
            exact ⟨_, .z0 _, fun w => by rw [slice_run hu hs (fun w => run_bounds3 c1 b1 b2 (by omega) w)]; simp; rfl⟩
        · rw [nbeq_no hml, cond_false] at h4
          cases hex : isExact s.heap (some a0) with
          | false =>
            rw [hex, cond_false] at h4
            have h5 := h4
            simp only [Option.some.injEq] at h5
            subst h5
            cases hx with
            | sl o off l2 cp hd hz => exact ⟨_, .junk _ _ _, fun w => slice_run hu hs (fun w => run_bounds3 c1 b1 b2 (by omega) w) w⟩
            | z0 a => omega
            | z1 a cp => omega
          | true =>
          rw [hex, cond_true] at h4
          have h5 := h4
          simp only [Option.some.injEq] at h5
          subst h5
          cases hx with
          | sl o off l2 cp hd hz =>
            unfold isExact at hex
            simp only at hex
            split at hex
            · rename_i ob hob
              have hx0 := (hH.rows o ob hob).ex hex
              refine ⟨.slice (some ⟨c.ρ o, off + l * sz, none⟩) (hh - l) (m - l + c.x o), by rw [addr_add]; exact .sl _ _ _ _ hd hz, fun w => ?_⟩
              rw [slice_run hu hs (fun w => run_bounds3 c1 b1 b2 (by omega) w), if_neg hml, hx0]
              simp [addr_add]
            · cases hex
          | z0 a => omega
          | z1 a cp => omega
      | none =>
        simp only [bound, Option.some.injEq] at e3
        subst e3
        rw [hmx.2 rfl]
        simp only at h2
        cases hx with
        | sl o off l2 cp hd hz =>
          rw [nbeq_no hz, cond_false] at h2
          by_cases hml : cap = l
          · rw [nbeq_yes hml, cond_true] at h2
            simp only [Option.some.injEq] at h2
            subst h2 hml
            have hh' : hh = cap := by omega
            subst hh'
            cases hex : isExact s.heap (some ⟨o, off, none⟩) with
            | true =>
              unfold isExact at hex
              simp only at hex
              split at hex
              · rename_i ob hob
                have hx0 := (hH.rows o ob hob).ex hex
                rw [hx0]
                exact ⟨_, .z0 _, fun w => by rw [slice_run hu hs (fun w => run_bounds2 (isSlice := true) c1 c2 b1 b2 (by omega) w)]; simp; rfl⟩
              · cases hex
            | false =>
              refine ⟨_, .z1 (if hh + c.x o = hh then ⟨c.ρ o, off, none⟩ else (⟨c.ρ o, off, none⟩ : Addr).add (hh * sz)) (hh + c.x o - hh), fun w => ?_⟩
              rw [slice_run hu hs (fun w => run_bounds2 (isSlice := true) c1 c2 b1 b2 (by omega) w)]
              rw [Nat.sub_self]
              split <;> rfl
          · rw [nbeq_no hml, cond_false] at h2
            simp only [Option.some.injEq] at h2
            subst h2
            refine ⟨.slice (some ⟨c.ρ o, off + l * sz, none⟩) (hh - l) (cap - l + c.x o), by rw [addr_add]; exact .sl _ _ _ _ hd hz, fun w => ?_⟩
            rw [slice_run hu hs (fun w => run_bounds2 (isSlice := true) c1 c2 b1 b2 (by omega) w), if_neg (by omega)]
            rw [show cap + c.x o - l = cap - l + c.x o by omega]
            simp [addr_add]
        | z0 a =>
          simp only [nbeq_yes, cond_true, Option.some.injEq] at h2
          subst h2
          obtain rfl : l = 0 := by omega
          obtain rfl : hh = 0 := by omega
          exact ⟨_, .z0 _, fun w => by rw [slice_run hu hs (fun w => run_bounds2 (isSlice := true) c1 c2 b1 b2 (by omega) w)]; simp; rfl⟩
        | z1 a cp =>
          simp only [nbeq_yes, cond_true, Option.some.injEq] at h2
          subst h2
          obtain rfl : l = 0 := by omega
          obtain rfl : hh = 0 := by omega
          refine ⟨_, .z1 a cp, fun w => ?_⟩
          rw [slice_run hu hs (fun w => run_bounds2 (isSlice := true) c1 c2 b1 b2 (by omega) w)]
          split
          · rfl
          · simp [Addr.add]
  · cases h

/-! append -/
theorem growBy_le : ∀ (r n c : Nat), c ≤ 2 * n + 1024 → n ≤ 16777216 → Builtin.growBy n r c ≤ 2 * n + 1024
  | 0, n, c, h, _ => h
  | r + 1, n, c, h, hn => by
    unfold Builtin.growBy
    split
    · exact h
    · exact growBy_le r n _ (by omega) hn

theorem nextcap_le {need cap : Nat} (h : cap < need) (hn : need ≤ 16777216) : Builtin.nextslicecap need cap ≤ 2 * need + 1024 := by
  unfold Builtin.nextslicecap
  split
  · omega
  · split
    · omega
    · exact growBy_le 4 need cap (by omega) hn

/-- A second type changes nothing, where it is no number's. -/
theorem append_types {t xt e : TypeId} {d : TypeDesc} {ty : TypeId} {bs : Option Addr} {len cap : Nat} {x' : Value} (hu : P.underlying t = some (.slice e)) {n : Nat} (hsize : size? P e = some n)
    (hd : P.underlying xt = some d) (hk : ∀ k, d ≠ .int k) :
    (Builtin.append_ #[t, xt] ty #[.slice bs len cap, x']).run P w = (Builtin.append_ #[t] ty #[.slice bs len cap, x']).run P w := by
  show (underlying t >>= _).run P w = (underlying t >>= _).run P w
  rw [Sem.run_bind, Sem.run_bind, run_underlying' hu, Result.andThen_ok, Result.andThen_ok]
  show (sizeOf e >>= _).run P w = (sizeOf e >>= _).run P w
  rw [Sem.run_bind, Sem.run_bind, run_sizeOf' hsize, Result.andThen_ok, Result.andThen_ok]
  show (underlying xt >>= _).run P w = _
  rw [Sem.run_bind, run_underlying' hd, Result.andThen_ok]
  cases d <;> first | rfl | exact absurd rfl (hk _)

theorem append_one {t e : TypeId} {ats : List TypeId} {ty : TypeId} {bs : Option Addr} {len cap : Nat} {x' : Value} (hu : P.underlying t = some (.slice e)) {n : Nat} (hsize : size? P e = some n)
    (hz : ats = [] ∨ ∃ xt d, ats = [xt] ∧ P.underlying xt = some d ∧ ∀ k, d ≠ .int k) :
    (Builtin.append_ (t :: ats).toArray ty #[.slice bs len cap, x']).run P w = (Builtin.append_ #[t] ty #[.slice bs len cap, x']).run P w := by
  rcases hz with rfl | ⟨xt, d, rfl, hd, hk⟩
  · rfl
  · exact append_types hu hsize hd hk

/-- The call as the model takes it. -/
theorem append_grows {t e : TypeId} {i : TypeInfo} {ats : List TypeId} {ty : TypeId} {bs : Option Addr} {len cap n : Nat} {x' : Value} {old new : List Value}
    (hu : P.underlying t = some (.slice e)) (hi : P.info? e = some i) (hz : ats = [] ∨ ∃ xt d, ats = [xt] ∧ P.underlying xt = some d ∧ ∀ k, d ≠ .int k)
    (hlen : ∀ w, (Builtin.lenOf x').run P w = .ok n w) (hneed : cap < len + n) (hsm : len + n ≤ 16777216) (hby : i.bytes ≤ 4096)
    (hold : ∀ d, (Builtin.firstCells i.size len (.slice bs len cap)).run P { w with drawn := d } = .ok old.toArray { w with drawn := d })
    (hnew : ∀ d, (Builtin.firstCells i.size n x').run P { w with drawn := d } = .ok new.toArray { w with drawn := d })
    (zero : Value) (hzero : i.zero = some zero) :
    ∃ nc d, len + n ≤ nc ∧ (Builtin.append_ (t :: ats).toArray ty #[.slice bs len cap, x']).run P w =
      .ok (.slice (some ⟨w.heap.size, 0, none⟩) (len + n) nc) { w with drawn := d, heap := w.heap.push (.cells (old.toArray ++ new.toArray ++ (reps zero.cells.toList (nc - (len + n))).toArray) e) } := by
  have hsize : size? P e = some i.size := by unfold size?; rw [hi]
  have hzv : ∀ w, (zeroValue e).run P w = .ok zero w := fun w => run_of_prun (by rw [prun_zeroValue, hi]; exact hzero) w
  have hcap := nextcap_le hneed hsm
  have hmul : Builtin.nextslicecap (len + n) cap * i.bytes ≤ (2 * (len + n) + 1024) * 4096 := Nat.mul_le_mul hcap hby
  have hbig : ¬ Builtin.nextslicecap (len + n) cap * i.bytes > 2 ^ 48 := by omega
  have hov : ¬ (((len + n : Nat) : Int) > IntKind.i64.max ∧ (i.bytes = 0)) := by
    have : IntKind.i64.max = 9223372036854775807 := by decide
    omega
  refine ⟨(len + n) + w.tape w.drawn (.appendCap (len + n) cap e) % (2 ^ 63 - (len + n)), w.drawn + 1, by omega, ?_⟩
  have hmod : w.tape w.drawn (.appendCap (len + n) cap e) % (2 ^ 63 - (len + n)) + (len + n) - (len + n) = w.tape w.drawn (.appendCap (len + n) cap e) % (2 ^ 63 - (len + n)) := by omega
  rw [append_one hu hsize hz]
  show (underlying t >>= _).run P w = _
  rw [Sem.run_bind, run_underlying' hu, Result.andThen_ok]
  show (sizeOf e >>= _).run P w = _
  rw [Sem.run_bind, run_sizeOf' hsize, Result.andThen_ok]
  show ((pure false : Sem Bool) >>= _).run P w = _
  rw [Sem.run_bind, Sem.run_pure, Result.andThen_ok]
  simp only [List.getElem_toArray, List.getElem_cons_succ, List.getElem_cons_zero, Bool.false_eq_true, if_false, Sem.run_bind, hlen, Result.andThen_ok, Bool.not_false, if_true]
  rw [if_neg (by omega)]
  simp only [Sem.run_bind, run_typeInfo' hi, Result.andThen_ok, false_or]
  rw [if_neg hov]
  simp only [Sem.run_bind, Sem.run_pure, run_typeInfo' hi, Result.andThen_ok]
  rw [if_neg hbig]
  simp only [Sem.run_bind, Sem.run_pure, run_typeInfo' hi, Result.andThen_ok, run_choose, Question.forced, Bool.false_eq_true, if_false, run_askRoom, hold, hnew, hzv, newRow, run_newObj', Question.cut, zeroCells_reps]

theorem append_room {t e : TypeId} {i : TypeInfo} {ats : List TypeId} {ty : TypeId} {bs : Option Addr} {len cap n : Nat} {x' : Value} {new : List Value}
    (hu : P.underlying t = some (.slice e)) (hi : P.info? e = some i) (hz : ats = [] ∨ ∃ xt d, ats = [xt] ∧ P.underlying xt = some d ∧ ∀ k, d ≠ .int k)
    (hlen : ∀ w, (Builtin.lenOf x').run P w = .ok n w) (hneed : len + n ≤ cap)
    (hnew : (Builtin.firstCells i.size n x').run P w = .ok new.toArray w) :
    (Builtin.append_ (t :: ats).toArray ty #[.slice bs len cap, x']).run P w =
      (match bs with | some a => (storeCells (a.add (len * i.size)) new).run P w | none => .ok () w).andThen fun _ w' => .ok (.slice bs (len + n) cap) w' := by
  have hsize : size? P e = some i.size := by unfold size?; rw [hi]
  rw [append_one hu hsize hz]
  show (underlying t >>= _).run P w = _
  rw [Sem.run_bind, run_underlying' hu, Result.andThen_ok]
  show (sizeOf e >>= _).run P w = _
  rw [Sem.run_bind, run_sizeOf' hsize, Result.andThen_ok]
  show ((pure false : Sem Bool) >>= _).run P w = _
  rw [Sem.run_bind, Sem.run_pure, Result.andThen_ok]
  simp only [List.getElem_toArray, List.getElem_cons_succ, List.getElem_cons_zero, Bool.false_eq_true, if_false, Sem.run_bind, hlen, Result.andThen_ok, Bool.not_false, if_true]
  rw [if_pos hneed]
  simp only [Sem.run_bind, hnew, Result.andThen_ok]
  cases bs with
  | none => rfl
  | some a => simp only [Sem.run_bind, Sem.run_pure]

/-- append(nil, make(..)...) -/
theorem append_make {t xt e : TypeId} {i : TypeInfo} {k : IntKind} {ty : TypeId} {n : Nat} (hu : P.underlying t = some (.slice e)) (hi : P.info? e = some i) (hx : P.underlying xt = some (.int k))
    (hn : 0 < n) (hsm : n ≤ 16777216) (hby : i.bytes ≤ 4096) (zero : Value) (hzero : i.zero = some zero) (hpos : 0 < i.size) :
    ∃ nc d, n ≤ nc ∧ (Builtin.append_ #[t, xt] ty #[.slice none 0 0, .int .i64 (.ofNat n)]).run P w =
      .ok (.slice (some ⟨w.heap.size, 0, none⟩) n nc) { w with drawn := d, heap := w.heap.push (.cells ((reps zero.cells.toList n).toArray ++ (reps zero.cells.toList (nc - n)).toArray) e) } := by
  have hsize : size? P e = some i.size := by unfold size?; rw [hi]
  have hzv : ∀ w, (zeroValue e).run P w = .ok zero w := fun w => run_of_prun (by rw [prun_zeroValue, hi]; exact hzero) w
  have hcap := nextcap_le (need := n) (cap := 0) hn hsm
  have hmul : Builtin.nextslicecap n 0 * i.bytes ≤ (2 * n + 1024) * 4096 := Nat.mul_le_mul hcap hby
  have hbig : ¬ Builtin.nextslicecap n 0 * i.bytes > 2 ^ 48 := by omega
  have hmul2 : n * i.bytes ≤ 16777216 * 4096 := Nat.mul_le_mul hsm hby
  have hov : ¬ ((n : Int) > IntKind.i64.max) := by
    have : IntKind.i64.max = 9223372036854775807 := by decide
    omega
  have hwrap : IntKind.i64.wrap (Int.ofNat n) = Int.ofNat n := fits_wrap _ _ (by simp only [fits, Nat.ble_eq]; omega)
  have hnz : ¬ n * i.size = 0 := by
    have := Nat.mul_pos hn hpos; omega
  have ha : ∀ w, (asInt (.int .i64 (.ofNat n))).run P w = .ok (.ofNat n) w := fun _ => rfl
  have e1 : (Int.ofNat n).toNat = n := rfl
  have hneg : ¬ (Int.ofNat n < 0) := by show ¬ ((n : Int) < 0); omega
  have hbb : ¬ (Int.ofNat n * (i.bytes : Int) > 2 ^ 48) := by
    have : Int.ofNat n * (i.bytes : Int) = ((n * i.bytes : Nat) : Int) := by rw [Int.natCast_mul]; rfl
    rw [this]; omega
  refine ⟨n + w.tape w.drawn (.appendCap n 0 e) % (2 ^ 63 - n), w.drawn + 1, by omega, ?_⟩
  have hmod : n + w.tape w.drawn (.appendCap n 0 e) % (2 ^ 63 - n) - n = w.tape w.drawn (.appendCap n 0 e) % (2 ^ 63 - n) := by omega
  show (underlying t >>= _).run P w = _
  rw [Sem.run_bind, run_underlying' hu, Result.andThen_ok]
  show (sizeOf e >>= _).run P w = _
  rw [Sem.run_bind, run_sizeOf' hsize, Result.andThen_ok]
  show (underlying xt >>= _).run P w = _
  rw [Sem.run_bind, run_underlying' hx, Result.andThen_ok]
  show ((pure true : Sem Bool) >>= _).run P w = _
  rw [Sem.run_bind, Sem.run_pure, Result.andThen_ok]
  simp only [List.getElem_toArray, List.getElem_cons_succ, List.getElem_cons_zero, if_true, Sem.run_bind, ha, Sem.run_pure, Result.andThen_ok, hwrap, if_neg hneg, run_typeInfo' hi, if_neg hbb, Bool.not_true, Bool.false_eq_true, if_false, e1, Nat.zero_add]
  rw [if_neg (by omega)]
  simp only [Sem.run_bind, Sem.run_pure, run_typeInfo' hi, Result.andThen_ok, true_or, and_true, if_neg hov, if_neg hbig, if_neg hnz, run_choose, Question.forced, Bool.false_eq_true, if_false, run_askRoom, hzv, newRow, run_newObj', Question.cut, zeroCells_reps, Builtin.firstCells]
  rw [Array.empty_append]

theorem lenOf_run {x x' : Value} {n : Nat} (hx : VR (zId P) c D x x') (h : lenOf? x = some n) (w : World) : (Builtin.lenOf x').run P w = .ok n w := by
  unfold lenOf? at h
  split at h
  · simp only [Option.some.injEq] at h
    subst h
    obtain ⟨a', cp', e, _⟩ := slice_inv hx
    rw [e]; rfl
  · simp only [Option.some.injEq] at h
    subst h
    rw [kept_str hx, lenN_eq, Nat.add_zero]
    rename_i s
    have hsz : s.size = s.data.toList.length := by rw [Array.length_toList]; rfl
    rw [← hsz]; rfl
  · cases h

theorem firstOf_nil {size : Nat} {x x' : Value} {n : Nat} (hx : VR (zId P) c D x x') (h : lenOf? x = some n) (w : World) : (Builtin.firstCells size 0 x').run P w = .ok #[] w := by
  unfold lenOf? at h
  split at h
  · obtain ⟨a', cp', e, _⟩ := slice_inv hx
    rw [e]
    cases a' with
    | none => rfl
    | some a => simp only [Builtin.firstCells, Nat.zero_mul]; rfl
  · rw [kept_str hx]
    simp only [Builtin.firstCells, Sem.run_pure]
    congr 1
    apply Array.toList_inj.1
    rename_i s
    have e3 : (s.extract 0 0).data = s.data.extract 0 0 := ByteArray.data_extract
    simp only [Array.toList_map, e3, Array.toList_extract, List.extract_eq_take_drop]
    simp
  · cases h

/-- The world with another count of draws reads alike. -/
theorem HR.drawn {H : T AObj} (h : HR Φ P c D H w) (d : Nat) : HR Φ P c D H { w with drawn := d } :=
  ⟨h.dom, fun o obj ho => ⟨(h.rows o obj ho).ex, (h.rows o obj ho).row⟩, h.inj, ⟨h.bel.os, h.bel.tape, h.bel.output, h.bel.size, h.bel.block⟩, h.up, h.nm⟩

theorem val_kill (h : HR Φ P c D s.heap w) {o : Nat} (hlive : s.heap.get o ≠ none) (hf : ∀ p, D p → ¬(s.next ≤ p ∧ p < s'.next)) {run : Result Next}
    (hv : Val Φ P c D ⟨s.next, Nat.min s.mw o, T.set none deep s.heap o⟩ s' v w run) : Val Φ P c D s s' v w run := by
  have ho4 := (h.dom o hlive).2.2
  have hget : ∀ p, (T.set none deep s.heap o).get p = if p = o then none else s.heap.get p := fun p => get_set _ _ _ _ _ (by unfold deep; omega)
  obtain ⟨m1, c', v', w', e1, e2, e3⟩ := hv
  have m2 : s'.mw ≤ o := Nat.le_trans m1 (Nat.min_le_right _ _)
  refine ⟨Nat.le_trans m1 (Nat.min_le_left _ _), c', v', w', e1, ?_, e3⟩
  have k : Step Φ P c c D s.heap (T.set none deep s.heap o) s.next s.next s'.mw w w := by
    refine ⟨Nat.le_refl _, fun _ _ => ⟨rfl, rfl⟩, ?_, rfl, rfl, rfl, Nat.le_refl _, fun _ _ _ => rfl, fun p hp => ?_, fun p hp hl => ?_⟩
    · rw [dom_nil]
      exact h.sub fun p ob hp => by
        rw [hget] at hp
        split at hp
        · cases hp
        · exact hp
    · rw [hget] at hp
      split at hp
      · exact absurd rfl hp
      · exact .inl hp
    · rw [hget, if_neg (by omega)]
  have e2' : Step Φ P c c' (fun p => D p ∨ (s.next ≤ p ∧ p < s.next)) (T.set none deep s.heap o) s'.heap s.next s'.next s'.mw w w' := by
    rw [dom_nil]; exact e2
  exact k.trans hf h e2'

theorem append_val (h : HR Φ P c D s.heap w) (hZ : zId P < s.next) (hf : ∀ o, s.next ≤ o → o < s'.next → ¬D o) {t e : TypeId} {i : TypeInfo} {ats : List TypeId} {ty : TypeId} {bs : Option Addr} {len cap : Nat} {x x' b' : Value}
    (hu : P.underlying t = some (.slice e)) (hi : P.info? e = some i) (hz : ats = [] ∨ ∃ xt d, ats = [xt] ∧ P.underlying xt = some d ∧ ∀ k, d ≠ .int k)
    (hzero : ∃ z, i.zero = some z ∧ z.cells.size = i.size)
    (hb : VR (zId P) c D (.slice bs len cap) b') (hx : VR (zId P) c D x x')
    (ha : appendOp P e i.size i.bytes bs len cap x s = some (.val v, s')) {run : Result Next}
    (hrun : run = ((Builtin.append_ (t :: ats).toArray ty #[b', x']).run P w).andThen fun u w' => .ok (.value u) w') : Val Φ P c D s s' v w run := by
  obtain ⟨zero, hz0, hzs⟩ := hzero
  have hsize : size? P e = some i.size := by unfold size?; rw [hi]
  have hcellsOf := cellsOf_size hsize
  unfold appendOp at ha
  split at ha
  · cases ha
  · rename_i n hn
    have hlen := lenOf_run (P := P) hx hn
    by_cases hn0 : n = 0
    · rw [nbeq_yes hn0, cond_true] at ha
      obtain ⟨h1, h2⟩ := bif_inv ha
      rw [Nat.ble_eq] at h1
      simp only [Option.some.injEq, Prod.mk.injEq, ANext.val.injEq] at h2
      obtain ⟨h3, h4⟩ := h2
      subst h3 h4 hn0
      obtain ⟨a', cp', e1, e2, e3⟩ := slice_inv hb
      subst e1
      refine val_same h hb ?_
      rw [hrun, append_room (new := []) hu hi hz hlen (by omega) (firstOf_nil hx hn w)]
      cases a' <;> rfl
    · rw [nbeq_no hn0, cond_false] at ha
      split at ha
      · cases ha
      · rename_i new hnew
        rw [fNat_eq] at ha
        obtain ⟨h1, h2⟩ := bif_inv ha
        simp only [Bool.and_eq_true, Nat.ble_eq, Nat.blt_eq, Nat.beq_eq] at h1
        obtain ⟨⟨⟨⟨⟨g1, g2⟩, g3⟩, g4⟩, g5⟩, g6⟩ := h1
        -- growing, with the old cells given
        have grow : ∀ (s1 : St), HR Φ P c D s1.heap w → s1.next = s.next → ∀ (base : Option Addr) (cp : Nat) (old old' : List Value), b' = .slice base len cp → cp < len + n →
            (∀ d, (Builtin.firstCells i.size len (.slice base len cp)).run P { w with drawn := d } = .ok old'.toArray { w with drawn := d }) →
            LR (zId P) c D old old' → ∀ new', LR (zId P) c D new new' → (∀ d, (Builtin.firstCells i.size n x').run P { w with drawn := d } = .ok new'.toArray { w with drawn := d }) →
            old.length + new.length = (len + n) * i.size → ¬D s.next → s.next < 4000000 → v = .slice (some ⟨s.next, 0, none⟩) (len + n) (len + n) →
            s' = ⟨s.next + 1, s1.mw, T.set (some ⟨app old new, e, false⟩) deep s1.heap s.next⟩ → Val Φ P c D s1 s' v w run := by
          intro s1 h1 hne base cp old old' hbe hcp hold hlo new' hln hnw hll hfr hlt hv hs'
          subst hbe
          obtain ⟨nc, d, hnc, hr⟩ := append_grows (w := w) (ty := ty) hu hi hz hlen hcp g1 g2 hold hnw zero hz0
          rw [hr] at hrun
          rw [← hne] at hfr hlt hv hs'
          refine val_new h1 (by rw [hne]; exact hZ) hlt hfr (x := nc - (len + n)) (cs := old'.toArray ++ new'.toArray ++ (reps zero.cells.toList (nc - (len + n))).toArray) (fun e => (by cases e)) ?_ ?_ hs' { w with drawn := d, heap := w.heap.push (.cells (old'.toArray ++ new'.toArray ++ (reps zero.cells.toList (nc - (len + n))).toArray) e) } (0, 0) (.inl rfl) rfl rfl rfl (by simp) ?_ ?_ hrun ?_
          · rw [app_eq, hcellsOf]
            simp only [Array.size_append, List.size_toArray, reps_len, Array.length_toList, List.length_append, hzs]
            rw [hlo.1, hln.1]
          · rw [app_eq]
            have e1 : (old'.toArray ++ new'.toArray ++ (reps zero.cells.toList (nc - (len + n))).toArray).toList = (old' ++ new') ++ reps zero.cells.toList (nc - (len + n)) := by simp
            rw [e1, List.take_append_of_le_length (by simp [hlo.1, hln.1]), List.take_of_length_le (by simp [hlo.1, hln.1])]
            exact hlo.append hln
          · simp
          · intro b hb
            simp only [Array.getElem?_push]; rw [if_neg (by omega)]
          · rw [hv]
            have := new_slice (P := P) (c := c) (D := D) (n := s1.next) (b := w.heap.size) (x := nc - (len + n)) (len := len + n) (cap := len + n) (by omega)
            rwa [show len + n + (nc - (len + n)) = nc by omega] at this
        have hnp : 0 < n := by omega
        obtain ⟨new', hln, hnw⟩ := firstOf_run h hx hnew hnp
        rw [lenN_eq, Nat.add_zero] at g5
        have hone := (allL_eq _ _).1 g6
        cases bs with
        | none =>
          simp only at h2
          obtain ⟨k1, k2⟩ := bif_inv h2
          obtain ⟨k3, k4⟩ := bif_inv k2
          rw [Nat.beq_eq] at k1 k3
          subst k1 k3
          obtain ⟨q1, q2⟩ := alloc_inv k4
          simp only [Option.some.injEq, Prod.mk.injEq, ANext.val.injEq] at q2
          cases hb with
          | snil => exact grow s h rfl none 0 [] [] rfl (by omega) (fun d => rfl) .nil new' hln hnw (by simp [g5]) (hf _ (Nat.le_refl _) (by rw [← q2.2]; simp)) q1 q2.1.symm (by rw [← q2.2]; rfl)
        | some a =>
          simp only at h2
          by_cases hza : a.block = zId P
          · rw [nbeq_yes hza, cond_true] at h2
            obtain ⟨k0, k00⟩ := bif_inv h2
            obtain ⟨k1, k2⟩ := bif_inv k00
            obtain ⟨k3, k4⟩ := bif_inv k2
            rw [Nat.beq_eq] at k0 k1 k3
            subst k1 k3
            obtain ⟨q1, q2⟩ := alloc_inv k4
            simp only [Option.some.injEq, Prod.mk.injEq, ANext.val.injEq] at q2
            cases hb with
            | sl o off l cp hd hz => exact absurd hza hz
            | z0 a2 => exact grow s h rfl (some a2) 0 [] [] rfl (by omega) (fun d => by simp only [Builtin.firstCells, Nat.zero_mul]; rfl) .nil new' hln hnw (by simp [g5]) (hf _ (Nat.le_refl _) (by rw [← q2.2]; simp)) q1 q2.1.symm (by rw [← q2.2]; rfl)
            | z1 a2 cp => cases k0
          · rw [nbeq_no hza, cond_false] at h2
            cases hb with
            | z0 a2 => exact absurd rfl hza
            | z1 a2 cp => exact absurd rfl hza
            | sl o off l2 cp hd hzo =>
              by_cases hroom : len + n ≤ cap
              · rw [nble, decide_eq_true hroom, cond_true] at h2
                split at h2
                · rename_i s2 hw2
                  simp only [Option.some.injEq, Prod.mk.injEq, ANext.val.injEq] at h2
                  obtain ⟨e1, e2⟩ := h2
                  subst e1 e2
                  rw [addr_add] at hw2
                  refine val_write h hw2 hln (.sl _ _ _ _ hd hzo) fun w' hst => .inl ?_
                  rw [hrun, append_room hu hi hz hlen (by omega) (hnw w.drawn)]
                  simp only [addr_add, hst, Result.andThen_ok]
                · cases h2
              · rw [nble, decide_eq_false hroom, cond_false] at h2
                split at h2
                · rename_i ob old hob hold
                  obtain ⟨old', r1, r2, r3, r4⟩ := read_cells h hold
                  have hR := h.rows o ob hob
                  cases hex : ob.exact with
                  | true =>
                    rw [hex, cond_true] at h2
                    obtain ⟨q1, q2⟩ := alloc_inv h2
                    simp only [Option.some.injEq, Prod.mk.injEq, ANext.val.injEq] at q2
                    have hx0 := hR.ex hex
                    exact grow s h rfl _ _ old old' rfl (by rw [hx0]; omega) (fun d => run_cells (by rw [← r1.1, r2]) r3) r1 new' hln hnw (by rw [r2, g5, Nat.add_mul]) (hf _ (Nat.le_refl _) (by rw [← q2.2]; simp)) q1 q2.1.symm (by rw [← q2.2])
                  | false =>
                    rw [hex, cond_false] at h2
                    obtain ⟨p1, p2⟩ := bif_inv h2
                    simp only [Bool.and_eq_true, Nat.beq_eq, lenN_eq, Nat.add_zero] at p1
                    obtain ⟨⟨p3, p4⟩, p5⟩ := p1
                    obtain ⟨q1, q2⟩ := alloc_inv p2
                    simp only [Option.some.injEq, Prod.mk.injEq, ANext.val.injEq] at q2
                    subst p3
                    obtain ⟨cs, fr, z1, z2, z3, z4⟩ := hR.row
                    rw [p5] at z1 z3
                    rw [hcellsOf, ← p4] at z3
                    have hnD : ¬D s.next := hf _ (Nat.le_refl _) (by rw [← q2.2]; simp)
                    have hlive : s.heap.get o ≠ none := by rw [hob]; simp
                    by_cases hgr : cap + c.x o < len + n
                    · refine val_kill h hlive (fun p hp1 hp2 => hf p hp2.1 hp2.2 hp1) ?_
                      · exact grow ⟨s.next, Nat.min s.mw o, T.set none deep s.heap o⟩ (h.sub fun p ob2 hp => by
                            rw [get_set _ _ _ _ _ (by have := (h.dom o hlive).2.2; unfold deep; omega)] at hp
                            split at hp
                            · cases hp
                            · exact hp) rfl _ _ old old' rfl hgr (fun d => run_cells (by rw [← r1.1, r2]) r3) r1 new' hln hnw (by rw [r2, g5, Nat.add_mul]) hnD q1 q2.1.symm (by rw [← q2.2])
                    · have hle : len + n ≤ cap + c.x o := by omega
                      have hmul := Nat.mul_le_mul_right i.size hle
                      rw [Nat.add_mul, Nat.add_mul] at hmul
                      have hmulp : (len + n) * i.size = len * i.size + n * i.size := Nat.add_mul ..
                      have hnl : new'.length = n * i.size := by rw [← hln.1]; exact g5
                      have h1' : ∀ v ∈ new', v.oneCell' = true := by
                        intro v hmem
                        obtain ⟨j, hj⟩ := List.mem_iff_getElem?.1 hmem
                        have hlt : j < new.length := by rw [hln.1]; exact (List.getElem?_eq_some_iff.1 hj).1
                        exact (hln.2 j _ v (List.getElem?_eq_getElem hlt) hj).oneCell (hone _ (List.getElem_mem hlt))
                      obtain ⟨w2, cs2, e1, e2, e3, e4⟩ := run_storeCells P (b := c.ρ o) (off := 0 + len * i.size) new' 0 cs w z1 z2.use h1' (by rw [hnl]; omega)
                      have hll : (app old new).length = (len + n) * i.size := by rw [app_eq, List.length_append, r2, g5, Nat.add_mul]
                      have hst := step_turn h (n := s.next) (x := cap + c.x o - (len + n)) hnD (by omega) q1 hlive (l := app old new) (e := e) (cs := cs2) (fr := fr)
                        (by rw [e3, z3, hll, hcellsOf, ← Nat.add_mul, ← Nat.add_mul]; congr 1; omega)
                        (by
                          rw [hll, app_eq]
                          refine ⟨by rw [List.length_append, r2, g5, List.length_take, Array.length_toList, e3, z3, hmulp]; omega, fun j u u' k1 k2 => ?_⟩
                          rw [List.getElem?_take] at k2
                          split at k2
                          · rename_i hj
                            rw [Array.getElem?_toList, e4 j] at k2
                            by_cases hj2 : j < len * i.size
                            · rw [List.getElem?_append_left (by rw [r2]; exact hj2)] at k1
                              rw [if_neg (by omega)] at k2
                              obtain ⟨u2, k3, k4⟩ := r1.at k1
                              have := r3 j u2 k3
                              rw [cell_row z1, Nat.zero_add, k2] at this
                              simp only [Option.some.injEq] at this
                              subst this
                              exact k4
                            · rw [List.getElem?_append_right (by rw [r2]; omega), r2] at k1
                              rw [if_pos (by rw [hnl]; omega), show j - (0 + len * i.size + 0) = j - len * i.size by omega] at k2
                              exact hln.2 _ u u' k1 k2
                          · cases k2)
                        (by rw [e3]; exact z2) e2 (Nat.min s.mw o) (Nat.min_le_right _ _)
                      rw [← q2.2, ← q2.1]
                      refine ⟨Nat.min_le_left _ _, _, .slice (some ⟨c.ρ o, 0, none⟩) (len + n) (cap + c.x o), w2, .inl ?_, hst, ?_⟩
                      · rw [hrun, append_room hu hi hz hlen hle (hnw w.drawn)]
                        simp only [addr_add, e1, Result.andThen_ok]
                      · have := new_slice (P := P) (c := c) (D := D) (n := s.next) (b := c.ρ o) (x := cap + c.x o - (len + n)) (len := len + n) (cap := len + n) (by omega)
                        rwa [show len + n + (cap + c.x o - (len + n)) = cap + c.x o by omega] at this
                · cases h2

theorem make_val (h : HR Φ P c D s.heap w) (hZ : zId P < s.next) (hf : ∀ o, s.next ≤ o → o < s'.next → ¬D o) {t xt e : TypeId} {i : TypeInfo} {k : IntKind} {ty : TypeId} {bs : Option Addr} {len cap : Nat} {x x' b' z : Value}
    (hu : P.underlying t = some (.slice e)) (hi : P.info? e = some i) (hxt : P.underlying xt = some (.int k)) (hz : i.zero = some z)
    (hb : VR (zId P) c D (.slice bs len cap) b') (hx : VR (zId P) c D x x')
    (ha : makeAppend e i z bs len cap x s = some (.val v, s')) {run : Result Next}
    (hrun : run = ((Builtin.append_ #[t, xt] ty #[b', x']).run P w).andThen fun u w' => .ok (.value u) w') : Val Φ P c D s s' v w run := by
  have hsize : size? P e = some i.size := by unfold size?; rw [hi]
  unfold makeAppend at ha
  split at ha
  · rename_i n
    obtain ⟨g1, g2⟩ := bif_inv ha
    simp only [Bool.and_eq_true, Nat.ble_eq, Nat.beq_eq, Nat.blt_eq] at g1
    obtain ⟨⟨⟨⟨⟨⟨⟨rfl, rfl⟩, h3⟩, h4⟩, h5⟩, h6⟩, h7⟩, h8⟩ := g1
    obtain ⟨q1, q2⟩ := alloc_inv g2
    simp only [Option.some.injEq, Prod.mk.injEq, ANext.val.injEq] at q2
    obtain ⟨e1, e2⟩ := q2
    subst e1
    have hnd : ¬D s.next := hf _ (Nat.le_refl _) (by rw [← e2]; simp)
    have hb' : b' = .slice none 0 0 := by cases hb; rfl
    rw [kept_int hx, hb'] at hrun
    obtain ⟨nc, d, hnc, hr⟩ := append_make (P := P) (w := w) (ty := ty) hu hi hxt h3 h4 h5 z hz h7
    rw [hr] at hrun
    have gl : allL Canon.ground0 (reps z.cells.toList n) = true := reps_ground h8 n
    have hlen : z.cells.toList.length = i.size := by rw [Array.length_toList]; exact h6
    refine val_new h hZ q1 hnd (x := nc - n) (cs := (reps z.cells.toList n).toArray ++ (reps z.cells.toList (nc - n)).toArray) (fun e => (by cases e)) ?_ ?_ e2.symm
      { w with drawn := d, heap := w.heap.push (.cells ((reps z.cells.toList n).toArray ++ (reps z.cells.toList (nc - n)).toArray) e) } (0, 0) (.inl rfl) rfl rfl rfl (by simp) ?_ ?_ hrun ?_
    · rw [cellsOf_size hsize]
      simp only [Array.size_append, List.size_toArray, reps_len, hlen]
    · rw [show ((reps z.cells.toList n).toArray ++ (reps z.cells.toList (nc - n)).toArray).toList = reps z.cells.toList n ++ reps z.cells.toList (nc - n) by simp, List.take_append_of_le_length (Nat.le_refl _), List.take_of_length_le (Nat.le_refl _)]
      exact .of_ground0 gl
    · simp
    · intro b hb
      simp only [Array.getElem?_push]; rw [if_neg (by omega)]
    · have := new_slice (c := c) (D := D) (P := P) (n := s.next) (b := w.heap.size) (x := nc - n) (len := n) (cap := n) (by omega)
      rwa [show n + (nc - n) = nc by omega] at this
  · cases ha
end
end Go.Proofs.Ytlkjdclhgmkndaa.Canon
