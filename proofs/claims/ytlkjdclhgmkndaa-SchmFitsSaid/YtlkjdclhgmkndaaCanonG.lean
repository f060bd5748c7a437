/-
  Operations that touch no memory, all of them.
-/
import Derived.Test.YtlkjdclhgmkndaaCanonF
namespace Go.Proofs.Ytlkjdclhgmkndaa.Canon
set_option linter.unusedVariables false
set_option linter.unusedSimpArgs false
open Go.RowKit
section
variable {Φ : Fx} {Z : Nat} {c : Ctx} {D : Nat → Prop} {P : Program}

theorem ptr_inv {a : Addr} {v' : Value} (h : VR Z c D (.pointer (some a)) v') : ∃ o off, a = ⟨o, off, none⟩ ∧ v' = .pointer (some ⟨c.ρ o, off, none⟩) ∧ D o := by
  cases h with
  | ptr o off hd => exact ⟨o, off, rfl, rfl, hd⟩

theorem slice_inv {a : Option Addr} {l cp : Nat} {v' : Value} (h : VR Z c D (.slice a l cp) v') : ∃ a' cp', v' = .slice a' l cp' ∧ cp ≤ cp' ∧ a'.isNone = a.isNone := by
  cases h with
  | snil => exact ⟨_, _, rfl, Nat.le_refl _, rfl⟩
  | sl o off l cp h hz => exact ⟨_, _, rfl, by omega, rfl⟩
  | z0 a => exact ⟨_, _, rfl, Nat.le_refl _, rfl⟩
  | z1 a cp => exact ⟨_, _, rfl, by omega, rfl⟩

theorem prun_boundsPanic {α : Type} (k : IntKind) (x y : Int) (code : BoundsCode) : prun P (boundsPanic k x y code : Sem α) = none := by
  unfold boundsPanic
  dsimp only
  split <;> rfl

theorem func_inv {fn : Fn} {f g : Array Value} {v' : Value} (h : VR Z c D (.func fn f g) v') : ∃ f' g', v' = .func fn f' g' ∧ LR Z c D f.toList f'.toList ∧ LR Z c D g.toList g'.toList := by
  cases h with
  | func fn f f' g g' hf hg h1 h2 => exact ⟨f', g', rfl, ⟨hf, h1⟩, ⟨hg, h2⟩⟩

theorem tuple_inv {f : Array Value} {v' : Value} (h : VR Z c D (.tuple f) v') : ∃ f', v' = .tuple f' ∧ LR Z c D f.toList f'.toList := by
  cases h with
  | tuple f f' hf h1 => exact ⟨f', rfl, ⟨hf, h1⟩⟩

theorem agg_inv {f : Array Value} {v' : Value} (h : VR Z c D (.agg f) v') : ∃ f', v' = .agg f' ∧ LR Z c D f.toList f'.toList := by
  cases h with
  | agg f f' hf h1 => exact ⟨f', rfl, ⟨hf, h1⟩⟩

theorem sliceStr_run {s : ByteArray} {lo lo' hi hi' : Option Value} {v : Value} {t : TypeId} (hu : P.underlying t = some .string)
    (hlo : (∀ v, lo = some v → ∃ v', lo' = some v' ∧ VR Z c D v v') ∧ (lo = none → lo' = none)) (hhi : (∀ v, hi = some v → ∃ v', hi' = some v' ∧ VR Z c D v v') ∧ (hi = none → hi' = none))
    (h : sliceStr s.data.toList lo hi = some v) : Canon.ground0 v = true ∧ ∀ w, (Instr.sliceAt t (.string s) lo' hi' none).run P w = .ok v w := by
  unfold sliceStr at h
  simp only at h
  split at h
  · rename_i l hh e1 e2
    obtain ⟨h1, h2⟩ := bif_inv h
    rw [Bool.and_eq_true, Nat.ble_eq, Nat.ble_eq, lenN_eq] at h1
    split at h2
    · rename_i r hr
      simp only [Option.some.injEq] at h2
      subst h2
      refine ⟨rfl, fun w => ?_⟩
      obtain ⟨r1, r2⟩ := takeN_eq _ _ _ hr
      rw [dropN_eq] at r1
      have b1 := bound_rel hlo.1 hlo.2 e1
      have b2 := bound_rel hhi.1 hhi.2 e2
      rw [lenN_eq, Nat.add_zero] at b2
      have hsz : s.size = s.data.toList.length := by rw [Array.length_toList]; rfl
      have hb := run_bounds2 (P := P) (isSlice := false) (cap := s.size) (cap' := s.size) b1 (hsz ▸ b2) h1.1 (by omega) (Nat.le_refl _) w
      have e3 : s.extract l hh = ⟨r.toArray⟩ := by
        have : (s.extract l hh).data = s.data.extract l hh := ByteArray.data_extract
        cases hx : s.extract l hh with
        | mk d =>
          rw [hx] at this
          simp only at this
          rw [this, r1]
          congr 1
          apply Array.toList_inj.1
          rw [Array.toList_extract, List.extract_eq_take_drop]
      unfold Instr.sliceAt
      simp only [Sem.run_bind, run_underlying' hu, Result.andThen_ok]
      unfold Instr.slice
      simp only [Sem.run_bind, run_underlying' hu, Result.andThen_ok, Option.isSome_none, Bool.false_eq_true, if_false, hb, Sem.run_pure, e3]
    · cases h2
  · cases h

theorem pop_sound {ev ev' : Operand → Value} (h : ∀ x, VR Z c D (ev x) (ev' x)) (o : Oper) (v : Value) (hp : pop P ev o = some v) :
    ∃ v', VR Z c D v v' ∧ Gives P ev' o v' := by
  obtain ⟨dst, op, type, pos, after, guard⟩ := o
  cases op <;> simp only [pop] at hp <;> first | (cases hp; done) | skip
  case move x => simp only [Option.some.injEq] at hp; subst hp; exact ⟨_, h x, fun w => rfl⟩
  case assign x => simp only [Option.some.injEq] at hp; subst hp; exact ⟨_, h x, fun w => rfl⟩
  case pick a b e =>
    split at hp
    · rename_i t ht
      simp only [Option.some.injEq] at hp
      subst hp
      have hc := kept_bool (ht ▸ h a)
      cases t
      · exact ⟨_, h e, fun w => by simp [execOp, hc, asBool]⟩
      · exact ⟨_, h b, fun w => by simp [execOp, hc, asBool]⟩
    · cases hp
  case build t ps =>
    split at hp
    · rename_i z hz
      obtain ⟨h1, h2⟩ := bif_inv hp
      have hz' : ∀ z, (P.info? t).bind (·.zero) = some z → allL Canon.ground0 z.cells.toList = true := by
        intro u hu
        unfold zero? at hz
        split at hz
        · rename_i i hi
          rw [hi] at hu
          simp only [Option.bind] at hu
          rw [hu] at hz
          simp only [Option.some.injEq] at hz
          rw [hz]; exact h1
        · cases hz
      obtain ⟨v', e1, e2⟩ := build_rel (Z := Z) (c := c) (D := D) (PR.map h ps.toList) hz' h2
      refine ⟨v', e2, fun w => ?_⟩
      have e3 : (ps.map fun (i, x) => (i, ev' x)) = (ps.toList.map fun (i, x) => (i, ev' x)).toArray := by
        apply Array.toList_inj.1; simp
      simp only [execOp, Sem.run_bind, e3, run_of_prun e1 w, Result.andThen_ok, Sem.run_pure]
    · cases hp
  case nilCheck x =>
    split at hp
    · rename_i a ha
      simp only [Option.some.injEq] at hp
      subst hp
      have hx := ha ▸ h x
      obtain ⟨o, off, rfl, e, hd⟩ := ptr_inv hx
      exact ⟨_, hx, fun w => by simp [execOp, e]⟩
    · rename_i f first cap ha
      simp only [Option.some.injEq] at hp
      subst hp
      have hx := ha ▸ h x
      obtain ⟨f', g', e, _, _⟩ := func_inv hx
      exact ⟨_, hx, fun w => by simp [execOp, e]⟩
    · cases hp
  case binOp op t x y yt =>
    split at hp
    · rename_i v0 hs
      simp only [Option.some.injEq] at hp
      subst hp
      obtain ⟨v', h1, h2⟩ := symBin_run (P := P) (t := t) (h x) (h y) hs
      refine ⟨v', h1, fun w => ?_⟩
      have := h2 x y w
      simp only [execOp, Sem.run_bind, Result.andThen] at this ⊢
      split at this
      · rename_i a w1 e1
        simp only [this, Sem.run_pure]
      · cases this
    · obtain ⟨h1, h2⟩ := bin_run (h x) (h y) hp
      refine ⟨v, .of_ground0 h1, fun w => ?_⟩
      have := h2 x y w
      simp only [execOp, Sem.run_bind, Result.andThen] at this ⊢
      split at this
      · rename_i a w1 e1
        simp only [this, Sem.run_pure]
      · cases this
  case unOp op t x =>
    split at hp
    · rename_i b hb
      simp only [Option.some.injEq] at hp
      subst hp
      exact ⟨_, .bool _, fun w => by simp [execOp, kept_bool (hb ▸ h x), Op.unary]⟩
    · rename_i k n hb
      simp only [Option.some.injEq] at hp
      subst hp
      exact ⟨_, .int _ _, fun w => by simp [execOp, kept_int (hb ▸ h x), Op.unary, Op.intArith, wrapF_eq]⟩
    · rename_i k n hb
      obtain ⟨h1, h2⟩ := prunG_run hp
      exact ⟨_, .of_ground0 h1, fun w => by simp [execOp, kept_int (hb ▸ h x), h2 w]⟩
    · cases hp
  case convert src dst x =>
    split at hp
    · rename_i k n hb
      split at hp
      · rename_i d hd
        split at hp
        · rename_i k2 hk
          simp only [Option.some.injEq] at hp
          subst hp
          refine ⟨_, .int _ _, fun w => ?_⟩
          simp only [execOp, kept_int (hb ▸ h x), convert, Sem.run_bind, run_underlying' hd, run_underlying' hk, Result.andThen_ok, convInt, wrapF_eq]
          cases d <;> rfl
        · cases hp
      · cases hp
    · rename_i s hb
      split at hp
      · rename_i d hd
        split at hp
        · rename_i hk
          simp only [Option.some.injEq] at hp
          subst hp
          refine ⟨_, .string _, fun w => ?_⟩
          simp only [execOp, kept_str (hb ▸ h x), convert, Sem.run_bind, run_underlying' hd, run_underlying' hk, Result.andThen_ok]
          cases d <;> rfl
        · cases hp
      · cases hp
    · cases hp
  case makeFunc fn first captured =>
    simp only [Option.some.injEq] at hp
    subst hp
    refine ⟨.func fn (first.map ev') (captured.map ev'), ?_, fun w => rfl⟩
    have l1 := LR.map_ev h first.toList
    have l2 := LR.map_ev h captured.toList
    rw [← map_toList, ← map_toList] at l1 l2
    exact .func _ _ _ _ _ l1.1 l2.1 l1.2 l2.2
  case makeInterface t x =>
    split at hp
    · cases hp
    · rename_i d hn hd
      simp only [Option.some.injEq] at hp
      subst hp
      refine ⟨.iface t (ev' x), .iface _ _ _ (h x), fun w => ?_⟩
      simp only [execOp, Instr.makeInterface, Sem.run_bind, run_underlying' hd, Result.andThen_ok]
      cases d <;> first | rfl | exact absurd rfl (hn _)
    · cases hp
  case fieldAddr s x f =>
    split at hp
    · rename_i a fields ha hu
      have hx := ha ▸ h x
      obtain ⟨o, off, rfl, e, hd⟩ := ptr_inv hx
      split at hp
      · rename_i fd hfd
        split at hp
        · cases hp
        · rename_i sz hn hsz
          simp only [Option.some.injEq] at hp
          subst hp
          refine ⟨.pointer (some ⟨c.ρ o, off + fd.offset, none⟩), by rw [addr_add]; exact .ptr _ _ hd, fun w => ?_⟩
          have hz : sz ≠ 0 := fun e => hn e
          simp only [execOp, Instr.fieldAt, Sem.run_bind, run_underlying' hu, Result.andThen_ok, hfd, e, Instr.sureAddr, Sem.run_pure, fieldPlace, run_sizeOf' hsz, if_neg hz, addr_add]
        · cases hp
      · cases hp
    · cases hp
  case field t x f =>
    obtain ⟨cs, e, d, fd, h1, h2, h3, h4⟩ : ∃ cs, ∃ (e : ev x = .agg cs), ∃ d fd, P.underlying t = some (.struct d) ∧ d[f]? = some fd ∧ True ∧ prun P (part fd.type cs fd.offset) = some v := by
      unfold Instr.field at hp
      rw [prun_bind, prun_underlying] at hp
      cases hu : P.underlying t with
      | none => rw [hu] at hp; cases hp
      | some d =>
        rw [hu] at hp
        simp only [Option.bind] at hp
        split at hp
        · rename_i fields
          split at hp
          · rename_i fd hfd
            rw [prun_bind] at hp
            cases hx : ev x <;> rw [hx] at hp <;> simp only [asAgg, prun_stuck, prun_pure, Option.bind, reduceCtorEq] at hp
            exact ⟨_, rfl, _, _, rfl, hfd, trivial, hp⟩
          · simp [prun_stuck] at hp
        · simp [prun_stuck] at hp
    obtain ⟨f', e', hl⟩ := agg_inv (e ▸ h x)
    obtain ⟨v', p1, p2⟩ := part_rel hl h4
    refine ⟨v', p2, fun w => ?_⟩
    simp only [execOp, Instr.field, Sem.run_bind, run_underlying' h1, Result.andThen_ok, h2, e', asAgg, Sem.run_pure, run_of_prun p1]
  case indexAddr t x i =>
    split at hp
    · rename_i a len cap k n e ha hi hu
      split at hp
      · rename_i sz hsz
        obtain ⟨h1, h2⟩ := bif_inv hp
        simp only [Option.some.injEq] at h2
        subst h2
        rw [Nat.blt_eq] at h1
        have hx := ha ▸ h x
        have hi' := kept_int (hi ▸ h i)
        generalize hv : ev' x = u at hx
        cases hx with
        | sl o off l cp hd hz =>
          refine ⟨.pointer (some ⟨c.ρ o, off + n * sz, none⟩), by rw [addr_add]; exact .ptr _ _ hd, fun w => ?_⟩
          simp only [execOp, Instr.indexAt, hi', hv, asIntOf, Sem.run_bind, Sem.run_pure, Result.andThen_ok, run_underlying' hu, run_sizeOf' hsz, addr_add]
          rw [if_pos (by constructor <;> simp only [Int.ofNat_eq_natCast] <;> omega)]
          simp [run_sizeOf' hsz, addr_add]
        | z0 a => omega
        | z1 a cp => omega
      · cases hp
    · rename_i a k n len e ha hi hu
      split at hp
      · rename_i sz hsz
        obtain ⟨h1, h2⟩ := bif_inv hp
        simp only [Option.some.injEq] at h2
        subst h2
        rw [Nat.blt_eq] at h1
        obtain ⟨o, off, rfl, e', hd⟩ := ptr_inv (ha ▸ h x)
        have hi' := kept_int (hi ▸ h i)
        refine ⟨.pointer (some ⟨c.ρ o, off + n * sz, none⟩), by rw [addr_add]; exact .ptr _ _ hd, fun w => ?_⟩
        simp only [execOp, Instr.indexAt, hi', e', asIntOf, Sem.run_bind, Sem.run_pure, Result.andThen_ok, run_underlying' hu, run_sizeOf' hsz, addr_add, Instr.sureAddr]
        rw [if_pos (by constructor <;> simp only [Int.ofNat_eq_natCast] <;> omega)]
        simp [run_sizeOf' hsz, addr_add]
      · cases hp
    · cases hp
  case index t x i =>
    split at hp
    · rename_i s k n ha hi hu
      split at hp
      · rename_i b hb
        simp only [Option.some.injEq] at hp
        subst hp
        rw [nth_eq] at hb
        refine ⟨_, .int _ _, fun w => ?_⟩
        have hs : s[n]? = some b := by
          have hlt : n < s.data.toList.length := (List.getElem?_eq_some_iff.1 hb).1
          have hlt' : n < s.size := by rw [Array.length_toList] at hlt; exact hlt
          have e1 : s[n] = s.data[n]'hlt' := rfl
          rw [getElem?_pos s n hlt', e1]
          rw [Array.getElem?_toList, Array.getElem?_eq_getElem hlt'] at hb
          exact hb
        simp only [execOp, Instr.index, kept_int (hi ▸ h i), kept_str (ha ▸ h x), asIntOf, Sem.run_bind, Sem.run_pure, Result.andThen_ok, run_underlying' hu]
        simp [hs]
      · cases hp
    · rename_i cs k n len e ha hi hu
      obtain ⟨f', e', hl⟩ := agg_inv (ha ▸ h x)
      unfold Instr.index at hp
      simp only [asIntOf, prun_bind, prun_pure, prun_underlying, hu, Option.bind] at hp
      split at hp
      · rename_i hcond
        rw [prun_bind, prun_sizeOf] at hp
        cases hsz : size? P e with
        | none => rw [hsz] at hp; cases hp
        | some sz =>
          rw [hsz] at hp
          obtain ⟨v', p1, p2⟩ := part_rel hl hp
          refine ⟨v', p2, fun w => ?_⟩
          simp only [execOp, Instr.index, kept_int (hi ▸ h i), e', asIntOf, Sem.run_bind, Sem.run_pure, Result.andThen_ok, run_underlying' hu, if_pos hcond, run_sizeOf' hsz, run_of_prun p1]
      · exfalso
        rw [prun_boundsPanic] at hp
        cases hp
    · cases hp
  case extract x i =>
    split at hp
    · rename_i vs hb
      obtain ⟨f', e', hl⟩ := tuple_inv (hb ▸ h x)
      rw [nth_eq] at hp
      obtain ⟨v', h1, h2⟩ := hl.at hp
      refine ⟨v', h2, fun w => ?_⟩
      have h1' : f'[i]? = some v' := by simpa using h1
      simp only [execOp, Instr.extract, e', h1', Sem.run_bind, Sem.run_pure, Result.andThen_ok]
    · cases hp
  case slice t x lo hi mx =>
    split at hp
    · rename_i s ha hu
      cases mx with
      | none =>
        simp only at hp
        obtain ⟨h1, h2⟩ := sliceStr_run hu (map_some h lo) (map_some h hi) hp
        refine ⟨v, .of_ground0 h1, fun w => ?_⟩
        simp only [execOp, kept_str (ha ▸ h x), Option.map_none, Sem.run_bind, h2 w, Result.andThen_ok, Sem.run_pure]
      | some m => cases hp
    · cases hp
  case call cl =>
    obtain ⟨callee, args, argTypes⟩ := cl
    unfold popCall at hp
    simp only at hp
    split at hp
    · skip
      split at hp
      · rename_i x t ha hat
        have ha' : args = #[x] := Array.toList_inj.1 (by simpa using ha)
        have hat' : argTypes = #[t] := Array.toList_inj.1 (by simpa using hat)
        subst ha' hat'
        split at hp
        · rename_i a n cap e hx hu
          simp only [Option.some.injEq] at hp
          subst hp
          obtain ⟨a', cp', e1, _⟩ := slice_inv (hx ▸ h x)
          refine ⟨_, .int _ _, fun w => ?_⟩
          simp [execOp, resolve, invoke, builtin, Builtin.len_, e1, run_underlying' hu, goInt]
        · rename_i s hx hu
          simp only [Option.some.injEq] at hp
          subst hp
          refine ⟨_, .int _ _, fun w => ?_⟩
          have hsz : s.size = s.data.toList.length := by rw [Array.length_toList]; rfl
          rw [lenN_eq, Nat.add_zero, ← hsz]
          simp [execOp, resolve, invoke, builtin, Builtin.len_, kept_str (hx ▸ h x), run_underlying' hu, goInt]
        · rename_i n e _ _ hu
          simp only [Option.some.injEq] at hp
          subst hp
          refine ⟨_, .int _ _, fun w => ?_⟩
          simp [execOp, resolve, invoke, builtin, Builtin.len_, run_underlying' hu, goInt]
        · cases hp
      · cases hp
    · skip
      have hl := LR.map_ev h args.toList
      rcases minAny_or hp with hp | ⟨x, y, he, hp⟩
      rotate_left
      · rw [he] at hl
        obtain ⟨x', r', e1, hx, hr⟩ := hl.inv_cons
        obtain ⟨y', r2, e3, hy, hr2⟩ := hr.inv_cons
        rw [hr2.inv_nil] at e3
        subst e3
        obtain ⟨v', k1, k2⟩ := symMin_run (P := P) hx hy hp
        refine ⟨v', k1, fun w => ?_⟩
        have e2 : (args.map ev').toList = x' :: [y'] := by rw [map_toList]; exact e1
        simp only [execOp, resolve, invoke, builtin, Builtin.min_, e2, Sem.run_bind, Sem.run_pure, Result.andThen_ok, k2 w]
      unfold minOf at hp
      split at hp
      · rename_i k a r he
        rw [he] at hl
        obtain ⟨v', r', e1, hv, hr⟩ := hl.inv_cons
        obtain ⟨h1, h2⟩ := minGo_run (P := P) r _ v hp r' v' hv hr rfl
        refine ⟨v, .of_ground0 h1, fun w => ?_⟩
        have e2 : (args.map ev').toList = v' :: r' := by rw [map_toList]; exact e1
        simp only [execOp, resolve, invoke, builtin, Builtin.min_, e2, Sem.run_bind, Sem.run_pure, Result.andThen_ok, h2 w]
      · cases hp
    · skip
      have hl := LR.map_ev h args.toList
      rcases maxAny_or hp with hp | ⟨x, y, he, hp⟩
      rotate_left
      · rw [he] at hl
        obtain ⟨x', r', e1, hx, hr⟩ := hl.inv_cons
        obtain ⟨y', r2, e3, hy, hr2⟩ := hr.inv_cons
        rw [hr2.inv_nil] at e3
        subst e3
        obtain ⟨v', k1, k2⟩ := symMax_run (P := P) hx hy hp
        refine ⟨v', k1, fun w => ?_⟩
        have e2 : (args.map ev').toList = x' :: [y'] := by rw [map_toList]; exact e1
        simp only [execOp, resolve, invoke, builtin, Builtin.max_, e2, Sem.run_bind, Sem.run_pure, Result.andThen_ok, k2 w]
      unfold maxOf at hp
      split at hp
      · rename_i k a r he
        rw [he] at hl
        obtain ⟨v', r', e1, hv, hr⟩ := hl.inv_cons
        obtain ⟨h1, h2⟩ := maxGo_run (P := P) r _ v hp r' v' hv hr rfl
        refine ⟨v, .of_ground0 h1, fun w => ?_⟩
        have e2 : (args.map ev').toList = v' :: r' := by rw [map_toList]; exact e1
        simp only [execOp, resolve, invoke, builtin, Builtin.max_, e2, Sem.run_bind, Sem.run_pure, Result.andThen_ok, h2 w]
      · cases hp
    · cases hp
end
end Go.Proofs.Ytlkjdclhgmkndaa.Canon
