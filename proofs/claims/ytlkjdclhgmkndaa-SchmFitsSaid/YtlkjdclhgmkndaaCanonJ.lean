/-
  Operations that touch memory, all of them.
-/
import Derived.Test.YtlkjdclhgmkndaaCanonI
namespace Go.Proofs.Ytlkjdclhgmkndaa.Canon
set_option linter.unusedVariables false
set_option linter.unusedSimpArgs false
open Go.RowKit
section
variable {Φ : Fx} {c : Ctx} {D : Nat → Prop} {P : Program} {w : World} {s s' : St} {v : Value}

theorem modify_push (w : Array Obj) (o : Obj) (f : Obj → Obj) : (w.push o).modify w.size f = w.push (f o) := by
  apply Array.ext_getElem?
  intro i
  simp only [Array.getElem?_modify, Array.getElem?_push]
  by_cases h : i = w.size
  · subst h; simp
  · rw [if_neg h, if_neg (fun e => h e.symm), if_neg h]

theorem hop_val {E : Env} {ev ev' : Operand → Value} (hE : E.P = P) (h : HR Φ P c D s.heap w) (hZ : zId P < s.next) (hf : ∀ o, s.next ≤ o → o < s'.next → ¬D o) (hev : ∀ x, VR (zId P) c D (ev x) (ev' x)) (o : Oper)
    (hh : hop E ev o s = some (.val v, s')) : Val Φ P c D s s' v w ((execOp ev' o).run P w) := by
  obtain ⟨dst, op, type, pos, after, guard⟩ := o
  cases op <;> simp only [hop, hE] at hh <;> first | (cases hh; done) | skip
  case alloc t =>
    split at hh
    · rename_i z hz
      obtain ⟨g1, g2⟩ := bif_inv hh
      obtain ⟨q1, q2⟩ := alloc_inv g2
      simp only [Option.some.injEq, Prod.mk.injEq, ANext.val.injEq] at q2
      obtain ⟨e1, e2⟩ := q2
      obtain ⟨u, r1, r2, r3⟩ := zero_run hz
      subst e1
      refine val_push h hZ q1 (hf _ (Nat.le_refl _) (by rw [← e2]; simp)) (.of_ground0 g1) e2.symm (mk' := .pointer (some ⟨w.heap.size, 0, none⟩)) ?_ new_ptr
      simp only [execOp, Instr.alloc, Sem.run_bind, r3, Result.andThen_ok, newVar, newRow, run_newObj', Sem.run_pure]
      rw [← r1]
    · cases hh
  case box t x =>
    obtain ⟨q1, q2⟩ := alloc_inv hh
    simp only [Option.some.injEq, Prod.mk.injEq, ANext.val.injEq] at q2
    obtain ⟨e1, e2⟩ := q2
    subst e1
    refine val_push h hZ q1 (hf _ (Nat.le_refl _) (by rw [← e2]; simp)) (hev x).cells e2.symm (mk' := .pointer (some ⟨w.heap.size, 0, none⟩)) ?_ new_ptr
    simp only [execOp, Instr.box, Sem.run_bind, Result.andThen_ok, newVar, newRow, run_newObj', Sem.run_pure]
  case buildSlice t len parts =>
    split at hh
    · rename_i e hu
      split at hh
      · rename_i sz z hsz hz
        obtain ⟨g1, g2⟩ := bif_inv hh
        simp only [Bool.and_eq_true, small, Nat.ble_eq, Nat.beq_eq, Nat.blt_eq, lenN_eq, Nat.add_zero] at g1
        obtain ⟨⟨⟨g3, g4⟩, g5⟩, g6⟩ := g1
        split at g2
        · rename_i cells hfill
          obtain ⟨q1, q2⟩ := alloc_inv g2
          simp only [Option.some.injEq, Prod.mk.injEq, ANext.val.injEq] at q2
          obtain ⟨e1, e2⟩ := q2
          subst e1
          obtain ⟨u, r1, r2, r3⟩ := zero_run hz
          have hp := PR.map (Z := zId P) (c := c) (D := D) hev parts.toList
          have hl0 : LR (zId P) c D (reps z len).toArray.toList (reps z len).toArray.toList := .of_ground0 (reps_ground g6 len)
          have e3 : (parts.map fun (i, x) => (i, ev x)).toList = parts.toList.map fun (i, x) => (i, ev x) := by simp
          rw [e3] at hfill
          obtain ⟨cells', f1, f2⟩ := fill_rel _ _ _ _ _ _ hp hl0 hfill
          refine val_push h hZ q1 (hf _ (Nat.le_refl _) (by rw [← e2]; simp)) f2 e2.symm (mk' := .slice (some ⟨w.heap.size, 0, none⟩) len (len + 0)) ?_ (new_slice (by omega))
          have e4 : (parts.map fun (i, x) => (i, ev' x)).toList = parts.toList.map fun (i, x) => (i, ev' x) := by simp
          have e5 : (reps z len).toArray = (Array.range (len * sz)).map (fun j => u.cells[j % u.cells.size]!) := by
            have := reps_range u.cells len
            rw [r1] at this
            rw [this]
            have hsz2 : u.cells.size = sz := by rw [← g4, ← r1]; simp
            rw [hsz2]
          rw [e5] at f1
          by_cases hz0 : len * sz = 0
          · simp only [execOp, Instr.buildSlice, Sem.run_bind, run_underlying' hu, run_sizeOf' hsz, Result.andThen_ok]
            rw [if_neg (by omega)]
            simp only [Sem.run_bind, hz0, if_true, Sem.run_pure, Result.andThen_ok, e4]
            rw [hz0] at f1
            have e6 : (Array.range 0).map (fun j => u.cells[j % u.cells.size]!) = (Array.range 0).map (fun (j : Nat) => (#[] : Array Value)[j % (#[] : Array Value).size]!) := by simp
            rw [e6] at f1
            rw [f1]
            simp [newRow]
          · simp only [execOp, Instr.buildSlice, Sem.run_bind, run_underlying' hu, run_sizeOf' hsz, Result.andThen_ok]
            rw [if_neg (by omega)]
            simp only [Sem.run_bind, if_neg hz0, r3, Sem.run_pure, Result.andThen_ok, e4]
            rw [f1]
            simp [newRow]
        · cases g2
      · cases hh
    · cases hh
  case load t a =>
    split at hh
    · rename_i ad sz ha hag hsz
      split at hh
      · rename_i cs hc
        simp only [Option.some.injEq, Prod.mk.injEq, ANext.val.injEq] at hh
        obtain ⟨e1, e2⟩ := hh
        subst e1 e2
        obtain ⟨o, off, rfl, e3, hd⟩ := ptr_inv (ha ▸ hev a)
        obtain ⟨l', r1, r2, r3, r4⟩ := read_cells h hc
        refine val_same h (VR.agg_of r1) ?_
        simp only [execOp, Instr.loadAt, e3, Instr.sureAddr, loadVar, Sem.run_bind, Sem.run_pure, Result.andThen_ok, run_isAgg' hag, if_true, run_sizeOf' hsz]
        rw [run_cells (by rw [← r1.1, r2]) r3]
        rfl
      · cases hh
    · rename_i ad sz ha hag hsz
      split at hh
      · rename_i u hc
        simp only [Option.some.injEq, Prod.mk.injEq, ANext.val.injEq] at hh
        obtain ⟨e1, e2⟩ := hh
        subst e1 e2
        obtain ⟨o, off, rfl, e3, hd⟩ := ptr_inv (ha ▸ hev a)
        obtain ⟨l', r1, r2, r3, r4⟩ := read_cells h hc
        obtain ⟨u', k1, k2⟩ := r1.at (i := 0) rfl
        refine val_same h k2 ?_
        have := r3 0 u' k1
        rw [Nat.add_zero] at this
        simp only [execOp, Instr.loadAt, e3, Instr.sureAddr, loadVar, Sem.run_bind, Sem.run_pure, Result.andThen_ok, run_isAgg' hag, Bool.false_eq_true, if_false, run_load, this]
      · cases hh
    · cases hh
  case store t a x =>
    split at hh
    · rename_i ad sz ha hsz
      obtain ⟨g1, g2⟩ := bif_inv hh
      rw [Nat.beq_eq, lenN_eq, Nat.add_zero] at g1
      split at g2
      · rename_i s2 hw2
        simp only [Option.some.injEq, Prod.mk.injEq, ANext.val.injEq] at g2
        obtain ⟨e1, e2⟩ := g2
        subst e1 e2
        obtain ⟨o, off, rfl, e3, hd⟩ := ptr_inv (ha ▸ hev a)
        have hl := (hev x).cells
        refine val_write h hw2 hl .undef fun w' hst => .inr ⟨?_, rfl⟩
        have hn : (ev' x).cells.size = sz := by rw [← g1, hl.1]; simp
        simp only [execOp, Instr.storeAt, e3, Instr.sureAddr, storeVar, Sem.run_bind, Sem.run_pure, Result.andThen_ok, run_sizeOf' hsz]
        rw [if_neg (by omega)]
        simp only [hst, Result.andThen_ok]
      · cases g2
    · cases hh
  case makeSlice t l cp =>
    split at hh
    · rename_i ln cn e hl hc hu
      split at hh
      · rename_i i hi
        split at hh
        · rename_i z hz
          obtain ⟨g1, g2⟩ := bif_inv hh
          simp only [Bool.and_eq_true, small, Nat.ble_eq, Nat.beq_eq, Nat.blt_eq] at g1
          obtain ⟨⟨⟨⟨⟨g3, g4⟩, g5⟩, g6⟩, g7⟩, g8⟩ := g1
          obtain ⟨q1, q2⟩ := alloc_inv g2
          simp only [Option.some.injEq, Prod.mk.injEq, ANext.val.injEq] at q2
          obtain ⟨e1, e2⟩ := q2
          subst e1
          have hsz : size? P e = some i.size := by unfold size?; rw [hi]
          have hzv : ∀ w, (zeroValue e).run P w = .ok z w := fun w => run_of_prun (by rw [prun_zeroValue, hi]; exact hz) w
          have hl' := kept_int (hl ▸ hev l)
          have hc' := kept_int (hc ▸ hev cp)
          have w1 : IntKind.i64.wrap (Int.ofNat ln) = (ln : Int) := IntWalk.i64_in _ (by constructor <;> simp only [Int.ofNat_eq_natCast] <;> omega)
          have w2 : IntKind.i64.wrap (Int.ofNat cn) = (cn : Int) := IntWalk.i64_in _ (by constructor <;> simp only [Int.ofNat_eq_natCast] <;> omega)
          have hmul : i.bytes * cn ≤ 4096 * 16777216 := Nat.mul_le_mul g5 g4
          have hcond : ¬((decide ((cn : Int) < 0) || decide ((i.bytes : Int) * (cn : Int) > 2 ^ 48) || decide ((ln : Int) < 0) || decide ((ln : Int) > (cn : Int))) = true) := by
            have h3 : ((i.bytes * cn : Nat) : Int) ≤ 68719476736 := by omega
            rw [Int.natCast_mul] at h3
            simp only [Bool.or_eq_true, decide_eq_true_eq]
            omega
          refine val_push h hZ q1 (hf _ (Nat.le_refl _) (by rw [← e2]; simp)) (.of_ground0 (reps_ground g8 cn)) e2.symm (mk' := .slice (some ⟨w.heap.size, 0, none⟩) ln (cn + 0)) ?_ (new_slice (by omega))
          simp only [execOp, Instr.makeSlice, Sem.run_bind, run_underlying' hu, hl', hc', asInt, asIntOf, Sem.run_pure, Result.andThen_ok, run_typeInfo' hi, w1, w2]
          rw [if_neg hcond]
          simp only [Sem.run_bind, run_askRoom, run_sizeOf' hsz, Result.andThen_ok, Int.toNat_natCast]
          have hrr := reps_range z.cells cn
          rw [g6] at hrr
          by_cases hcz : cn * i.size = 0
          · rw [if_pos hcz]
            simp only [Sem.run_bind, Sem.run_pure, Result.andThen_ok, newRow, run_newObj', hcz]
            rw [hcz] at hrr
            rw [hrr]
            have r0 : ∀ f : Nat → Value, (Array.range 0).map f = #[] := fun f => by simp
            rw [r0, r0]
            rfl
          · rw [if_neg hcz]
            simp only [Sem.run_bind, hzv, Sem.run_pure, Result.andThen_ok, newRow, run_newObj', hrr, g6, Nat.add_zero]
        · cases hh
      · cases hh
    · cases hh
  case slice t x lo hi mx =>
    split at hh
    · rename_i a len cap e ha hu
      split at hh
      · rename_i sz hsz
        split at hh
        · rename_i u hs
          simp only [Option.some.injEq, Prod.mk.injEq, ANext.val.injEq] at hh
          obtain ⟨e1, e2⟩ := hh
          subst e1 e2
          obtain ⟨v', k1, k2⟩ := sliceOf_run h hu hsz (ha ▸ hev x) (map_some hev lo) (map_some hev hi) (map_some hev mx) hs
          refine val_same h k1 ?_
          simp only [execOp, Sem.run_bind, k2, Result.andThen_ok, Sem.run_pure]
        · cases hh
      · cases hh
    · cases hh
  case convert src dst x =>
    split at hh
    · rename_i b e ha hs hd
      split at hh
      · rename_i hu8 hsz
        obtain ⟨q1, q2⟩ := alloc_inv hh
        simp only [Option.some.injEq, Prod.mk.injEq, ANext.val.injEq] at q2
        obtain ⟨e1, e2⟩ := q2
        subst e1
        rw [lenN_eq, Nat.add_zero]
        have hsize : b.size = b.data.toList.length := by rw [Array.length_toList]; rfl
        obtain ⟨d, hdd⟩ : ∃ d, d = w.tape w.drawn (.appendCap b.size 0 e) % (2 ^ 63 - b.size) := ⟨_, rfl⟩
        have hnd : ¬D s.next := hf _ (Nat.le_refl _) (by rw [← e2]; simp)
        have gl : allL Canon.ground0 (b.data.toList.map fun b => Value.int .u8 (.ofNat b.toNat)) = true := by
          rw [allL_eq]; intro x hx
          obtain ⟨y, _, rfl⟩ := List.mem_map.1 hx
          rfl
        have hb' := kept_str (ha ▸ hev x)
        refine val_new h hZ q1 hnd (x := d) (cs := (b.data.map fun b => Value.int .u8 b.toNat) ++ Array.replicate d (.int .u8 0)) (ex := false) (fun e => (by cases e)) ?_ ?_ e2.symm
          { w with drawn := w.drawn + 1, heap := w.heap.push (.cells ((b.data.map fun b => Value.int .u8 b.toNat) ++ Array.replicate d (.int .u8 0)) e (b.size + d, b.size + d + 1)) } (b.size + d, b.size + d + 1) ?_ rfl rfl rfl (by simp) (by simp) ?_
          (mk' := .slice (some ⟨w.heap.size, 0, none⟩) b.data.toList.length (b.data.toList.length + d)) ?_ (new_slice (by omega))
        · rw [cellsOf_size hsz]; simp
        · rw [List.length_map, Array.toList_append, Array.toList_map, List.take_append_of_le_length (by simp), List.take_of_length_le (by simp)]
          exact .of_ground0 gl
        · refine .inr ?_
          simp only [Array.size_append, Array.size_map, Array.size_replicate]
          have : b.data.size = b.size := rfl
          omega
        · intro b2 hb2
          simp only [Array.getElem?_push]; rw [if_neg (by omega)]
        · simp only [execOp, convert, hb', Sem.run_bind, run_underlying' hs, run_underlying' hd, Result.andThen_ok]
          rw [run_underlying' hu8, Result.andThen_ok]
          simp only [Conv.stringToBytes, Sem.run_bind, run_choose, Question.forced, Bool.false_eq_true, if_false, Question.cut, Result.andThen_ok, newRow, run_newObj', Sem.run_pure, markStringish, run_shape]
          rw [← hdd]
          have hsh : ({ w with drawn := w.drawn + 1, heap := w.heap.push (.cells ((b.data.map fun b => Value.int .u8 b.toNat) ++ Array.replicate (b.size + d - b.size) (.int .u8 0)) e) } : World).shape? w.heap.size = some (e, b.size + d) := by
            have : b.data.size = b.size := rfl
            simp [World.shape?, this]
          rw [hsh]
          simp only [run_freeze, Result.andThen_ok, World.freeze, if_neg (show ¬(1 = 0) by omega)]
          rw [modify_push, ← hsize, Nat.add_sub_cancel_left]
          rfl
      · cases hh
    · rename_i a len cap e ha hs hd
      split at hh
      · rename_i hu8
        split at hh
        · rename_i l hl
          split at hh
          · rename_i r hr
            simp only [Option.some.injEq, Prod.mk.injEq, ANext.val.injEq] at hh
            obtain ⟨e1, e2⟩ := hh
            subst e1 e2
            obtain ⟨ns, k1, k2⟩ := toBytes_eq l r hr
            have hxx := ha ▸ hev x
            obtain ⟨a', cp', e3, e4, e5⟩ := slice_inv hxx
            -- the cells
            have hcells : ∀ a0, a' = some a0 → (loadCells a0 len).run P w = .ok (ns.map (Value.int .u8)).toArray w := by
              intro a0 ha0
              by_cases hz : len = 0
              · subst hz
                unfold firstOf at hl
                have hl0 : l = [] := by
                  cases a <;> simp at hl <;> exact hl
                subst hl0
                have : ns = [] := by cases ns with | nil => rfl | cons _ _ => simp at k1
                subst this
                rfl
              · have hv2 : VR (zId P) c D (.slice a len len) (.slice a' len (cp' - cap + len)) := by
                  rw [e3] at hxx
                  cases hxx with
                  | snil => rw [Nat.sub_self, Nat.zero_add]; exact .snil _ _
                  | sl o off l2 cp hd hz2 =>
                    have := VR.sl (Z := zId P) (c := c) (D := D) o off len len hd hz2
                    rwa [show cap + c.x o - cap + len = len + c.x o by omega]
                  | z0 a2 => omega
                  | z1 a2 cp => omega
                obtain ⟨l', r1, r2⟩ := firstOf_run h hv2 hl (by omega)
                have r3 := r2 w.drawn
                rw [ha0] at r3
                unfold Builtin.firstCells at r3
                rw [Nat.mul_one] at r3
                have g : allL Canon.ground0 l = true := by
                  rw [k1, allL_eq]; intro y hy
                  obtain ⟨z, _, rfl⟩ := List.mem_map.1 hy
                  rfl
                rw [r1.ground0 g, k1] at r3
                exact r3
            refine val_same h (.string _) ?_
            simp only [execOp, e3, convert, Sem.run_bind, run_underlying' hs, run_underlying' hd, Result.andThen_ok]
            rw [run_underlying' hu8, Result.andThen_ok]
            have hbs : (Conv.bytesToString (.slice a' len cp')).run P w = .ok (.string ⟨r.toArray⟩) w := by
              cases a' with
              | none =>
                have : a = none := by cases a with | none => rfl | some _ => cases e5
                subst this
                unfold firstOf at hl
                obtain ⟨_, h6⟩ := bif_inv hl
                simp only [Option.some.injEq] at h6
                subst h6
                have : ns = [] := by cases ns with | nil => rfl | cons _ _ => simp at k1
                subst this
                subst k2
                rfl
              | some a0 =>
                simp only [Conv.bytesToString, Sem.run_bind, hcells a0 rfl, Result.andThen_ok, List.forIn_toArray]
                refine Eq.trans (congrArg (fun r => Result.andThen r (fun a w' => Sem.run P (Pure.pure (Value.string a) : Sem Value) w')) (bytes_loop P w (fun _ _ => rfl) ns ByteArray.empty)) ?_
                rw [k2]
                rfl
            rw [hbs]
            rfl
          · cases hh
        · cases hh
      · cases hh
    · rename_i a len cap t0 e ha hs hd
      obtain ⟨g1, g2⟩ := bif_inv hh
      rw [Nat.beq_eq] at g1
      subst g1
      have e0 : t0 = e := by have := hs.symm.trans hd; simpa using this
      subst e0
      split at g2
      · rename_i obj hob hu8
        simp only [Option.some.injEq, Prod.mk.injEq, ANext.val.injEq] at g2
        obtain ⟨e1, e2⟩ := g2
        subst e1 e2
        have hx := ha ▸ hev x
        have hx0 := hx
        generalize he : ev' x = x' at hx
        cases hx with
        | sl o off l2 cp hd2 hz2 =>
          refine val_mark (o := o) h hob (he ▸ hx0) fun n hn => ?_
          simp only [execOp, he, convert, Sem.run_bind, run_underlying' hs, run_underlying' hd, Result.andThen_ok]
          rw [run_underlying' hu8, Result.andThen_ok]
          simp only [BEq.rfl, markStringish, Sem.run_bind, run_shape, hn, run_freeze, Result.andThen_ok, Sem.run_pure]
        | z0 a2 => exact absurd rfl (h.dom _ (by rw [hob]; simp)).2.1
        | z1 a2 cp => exact absurd rfl (h.dom _ (by rw [hob]; simp)).2.1
      · cases g2
    · cases hh
  case call cl =>
    obtain ⟨callee, args, argTypes⟩ := cl
    unfold hopCall at hh
    simp only at hh
    split at hh
    · -- append
      split at hh
      · rename_i b x t rest ha hat
        have ha' : args = #[b, x] := Array.toList_inj.1 (by simpa using ha)
        have hat' : argTypes = (t :: rest).toArray := Array.toList_inj.1 (by simpa using hat)
        subst ha' hat'
        split at hh
        · rename_i bs len cap e hb hu
          split at hh
          · rename_i i hi
            split at hh
            · rename_i z hz
              by_cases hmk : ∃ xt k, rest = [xt] ∧ P.underlying xt = some (.int k)
              · obtain ⟨xt, k, rfl, hxt⟩ := hmk
                simp only [hxt, cond_true, isInt] at hh
                refine make_val h hZ hf hu hi hxt hz (hb ▸ hev b) (hev x) hh (ty := type) ?_
                simp only [execOp, resolve, Sem.run_bind, Sem.run_pure, Result.andThen_ok, invoke, builtin, List.map_toArray, List.map_cons, List.map_nil]
              have hzr : (rest = [] ∨ ∃ xt d, rest = [xt] ∧ P.underlying xt = some d ∧ ∀ k, d ≠ .int k) ∧ z.cells.size = i.size ∧ appendOp P e i.size i.bytes bs len cap (ev x) s = some (.val v, s') := by
                match rest, hh, hmk with
                | [], hh, _ =>
                  simp only [cond_false] at hh
                  obtain ⟨g1, g2⟩ := bif_inv hh
                  exact ⟨.inl rfl, Nat.beq_eq ▸ g1, g2⟩
                | [xt], hh, hmk =>
                  simp only at hh
                  cases hx : P.underlying xt with
                  | none => simp only [hx, isInt, cond_true, cond_false] at hh; cases hh
                  | some d =>
                    simp only [hx, isInt] at hh
                    cases d
                    case int k => exact absurd ⟨xt, k, rfl, hx⟩ hmk
                    all_goals
                      simp only [cond_false] at hh
                      obtain ⟨g1, g2⟩ := bif_inv hh
                      exact ⟨.inr ⟨xt, _, rfl, hx, fun k e => by cases e⟩, Nat.beq_eq ▸ g1, g2⟩
                | _ :: _ :: _, hh, _ => simp only [isInt, cond_true, cond_false] at hh; cases hh
              obtain ⟨k1, k2, k3⟩ := hzr
              refine append_val h hZ hf hu hi k1 ⟨z, hz, k2⟩ (hb ▸ hev b) (hev x) k3 (ty := type) ?_
              simp only [execOp, resolve, Sem.run_bind, Sem.run_pure, Result.andThen_ok, invoke, builtin, List.map_toArray, List.map_cons, List.map_nil]
            · cases hh
          · cases hh
        · cases hh
      · cases hh
    · -- copy
      split at hh
      · rename_i d x t rest ha hat
        have ha' : args = #[d, x] := Array.toList_inj.1 (by simpa using ha)
        have hat' : argTypes = (t :: rest).toArray := Array.toList_inj.1 (by simpa using hat)
        subst ha' hat'
        split at hh
        · rename_i a len cap e hd hu
          split at hh
          · rename_i sz m hsz hm
            have hlen := lenOf_run (P := P) (hev x) hm
            have hdd := hd ▸ hev d
            obtain ⟨a', cp', e3, e4, e5⟩ := slice_inv hdd
            have hrun : ∀ (cs : List Value), (Builtin.firstCells sz (Nat.min m len) (ev' x)).run P w = .ok cs.toArray w →
                (execOp ev' ⟨dst, .call { callee := .builtin .copy, args := #[d, x], argTypes := (t :: rest).toArray }, type, pos, after, guard⟩).run P w =
                  ((match a' with | some a0 => (storeCells a0 cs).run P w | none => .ok () w).andThen fun _ w' => .ok (.value (.int .i64 (Nat.min m len : Nat))) w') := by
              intro cs hcs
              have hc : (Builtin.copy_ (t :: rest).toArray type #[.slice a' len cp', ev' x]).run P w =
                  (match a' with | some a0 => (storeCells a0 cs).run P w | none => .ok () w).andThen fun _ w' => .ok (.int .i64 (Nat.min m len : Nat)) w' := by
                show (underlying t >>= _).run P w = _
                rw [Sem.run_bind, run_underlying' hu, Result.andThen_ok]
                show (Builtin.lenOf (ev' x) >>= _).run P w = _
                rw [Sem.run_bind, hlen, Result.andThen_ok]
                show (sizeOf e >>= _).run P w = _
                rw [Sem.run_bind, run_sizeOf' hsz, Result.andThen_ok]
                show (Builtin.firstCells sz (Nat.min m len) (ev' x) >>= _).run P w = _
                rw [Sem.run_bind, hcs, Result.andThen_ok]
                cases a' with
                | none => rfl
                | some a0 => simp only [Sem.run_bind, Sem.run_pure, goInt]
              simp only [execOp, resolve, Sem.run_bind, Sem.run_pure, Result.andThen_ok, invoke, builtin, List.map_toArray, List.map_cons, List.map_nil, e3, hc]
              cases a' with
              | none => rfl
              | some a0 =>
                simp only
                cases (storeCells a0 cs).run P w <;> rfl
            by_cases hn0 : Nat.min m len = 0
            · rw [nbeq_yes hn0, cond_true] at hh
              simp only [Option.some.injEq, Prod.mk.injEq, ANext.val.injEq] at hh
              obtain ⟨e1, e2⟩ := hh
              subst e1 e2
              refine val_same h (.int _ _) ?_
              rw [hrun [] (by rw [hn0]; exact firstOf_nil (hev x) hm w), hn0]
              cases a' <;> rfl
            · rw [nbeq_no hn0, cond_false] at hh
              split at hh
              · rename_i cs a0 hcs
                split at hh
                · rename_i s2 hw2
                  simp only [Option.some.injEq, Prod.mk.injEq, ANext.val.injEq] at hh
                  obtain ⟨e1, e2⟩ := hh
                  subst e1 e2
                  obtain ⟨cs', r1, r2⟩ := firstOf_run h (hev x) hcs (by omega)
                  rw [e3] at hdd
                  have hml : Nat.min m len ≤ len := Nat.min_le_right _ _
                  cases hdd with
                  | sl o off l cp hd2 hz2 =>
                    refine val_write h hw2 r1 (.int _ _) fun w' hst => .inl ?_
                    rw [hrun cs' (r2 w.drawn)]
                    simp only [hst, Result.andThen_ok]
                    rfl
                  | z0 a2 => omega
                  | z1 a2 cp => omega
                · cases hh
              · cases hh
          · cases hh
        · cases hh
      · cases hh
    · -- clear
      split at hh
      · rename_i d t ha hat
        have ha' : args = #[d] := Array.toList_inj.1 (by simpa using ha)
        have hat' : argTypes = #[t] := Array.toList_inj.1 (by simpa using hat)
        subst ha' hat'
        split at hh
        · rename_i a len cap e hd hu
          split at hh
          · rename_i z hz
            have hdd := hd ▸ hev d
            obtain ⟨a', cp', e3, e4, e5⟩ := slice_inv hdd
            obtain ⟨u, r1, r2, r3⟩ := zero_run hz
            by_cases hn0 : len = 0
            · rw [nbeq_yes hn0, cond_true] at hh
              simp only [Option.some.injEq, Prod.mk.injEq, ANext.val.injEq] at hh
              obtain ⟨e1, e2⟩ := hh
              subst e1 e2 hn0
              refine val_same h .undef ?_
              have hc : (Builtin.clear_ #[t] type #[.slice a' 0 cp']).run P w = .ok (.tuple #[]) w := by
                show (underlying t >>= _).run P w = _
                rw [Sem.run_bind, run_underlying' hu, Result.andThen_ok]
                cases a' <;> rfl
              simp only [execOp, resolve, Sem.run_bind, Sem.run_pure, Result.andThen_ok, invoke, builtin, List.map_toArray, List.map_cons, List.map_nil, e3, hc]
              rfl
            · rw [nbeq_no hn0, cond_false] at hh
              split at hh
              · rename_i a0
                obtain ⟨g1, g2⟩ := bif_inv hh
                split at g2
                · rename_i s2 hw2
                  simp only [Option.some.injEq, Prod.mk.injEq, ANext.val.injEq] at g2
                  obtain ⟨e1, e2⟩ := g2
                  subst e1 e2
                  rw [e3] at hdd
                  cases hdd with
                  | sl o off l cp hd2 hz2 =>
                    refine val_write h hw2 (.of_ground0 (reps_ground g1 len)) .undef fun w' hst => .inl ?_
                    have hc : (Builtin.clear_ #[t] type #[.slice (some ⟨c.ρ o, off, none⟩) len (cap + c.x o)]).run P w = .ok (.tuple #[]) w' := by
                      show (underlying t >>= _).run P w = _
                      rw [Sem.run_bind, run_underlying' hu, Result.andThen_ok]
                      obtain ⟨k, rfl⟩ : ∃ k, len = k + 1 := ⟨len - 1, by omega⟩
                      show (zeroValue e >>= _).run P w = _
                      rw [Sem.run_bind, r3, Result.andThen_ok]
                      simp only [Sem.run_bind, zeroCells_reps, r1, hst, Result.andThen_ok, Sem.run_pure]
                    simp only [execOp, resolve, Sem.run_bind, Sem.run_pure, Result.andThen_ok, invoke, builtin, List.map_toArray, List.map_cons, List.map_nil, e3, hc]
                    rfl
                  | z0 a2 => omega
                  | z1 a2 cp => omega
                · cases g2
              · cases hh
          · cases hh
        · cases hh
      · cases hh
    · -- cap
      split at hh
      · rename_i d t ha hat
        have ha' : args = #[d] := Array.toList_inj.1 (by simpa using ha)
        have hat' : argTypes = #[t] := Array.toList_inj.1 (by simpa using hat)
        subst ha' hat'
        split at hh
        · rename_i a len cap e hd hu
          obtain ⟨g1, g2⟩ := bif_inv hh
          simp only [Option.some.injEq, Prod.mk.injEq, ANext.val.injEq] at g2
          obtain ⟨e1, e2⟩ := g2
          subst e1 e2
          have hx : ∃ a', ev' d = .slice a' len cap := by
            have hdd := hd ▸ hev d
            generalize ev' d = y at hdd
            have none_of : s.heap.get (zId P) = none := Classical.byContradiction fun hne => absurd rfl (h.dom _ hne).2.1
            cases hdd with
            | snil l cp => exact ⟨none, rfl⟩
            | sl o off l cp hdo hz =>
              unfold isExact at g1
              dsimp only at g1
              split at g1
              · rename_i obj ho
                exact ⟨_, by rw [(h.rows o obj ho).ex g1, Nat.add_zero]⟩
              · cases g1
            | z0 a2 => unfold isExact at g1; dsimp only at g1; rw [none_of] at g1; cases g1
            | z1 a2 cp => unfold isExact at g1; dsimp only at g1; rw [none_of] at g1; cases g1
          obtain ⟨a', hx⟩ := hx
          refine val_same h (.int _ _) ?_
          simp [execOp, resolve, invoke, builtin, Builtin.cap_, hx, run_underlying' hu, goInt]
        · cases hh
      · cases hh
    · -- a function
      split at hh
      · simp only [Option.some.injEq, Prod.mk.injEq, reduceCtorEq, false_and] at hh
      · cases hh
    · cases hh
end
end Go.Proofs.Ytlkjdclhgmkndaa.Canon
