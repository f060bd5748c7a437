/-
  The walk of StamState.
-/
import Derived.Test.YtnjeoolbnanmiaaStamh
import Derived.Test.YtnjeoolbnanmiaaAwakl
import Derived.Deep.DeepCutAuto
import Derived.Deep.RegionWith
namespace Go.Proofs.Ytnjeoolbnanmiaa
set_option linter.unusedVariables false
open Go.RowKit

theorem state_cons (t : Ti) (r : List Ti) (x : Int) : stateT (t :: r) x = if t.i = x then t else stateT r x := by
  unfold stateT
  rw [List.find?_cons]
  by_cases h : t.i = x
  · rw [if_pos h, show (t.i == x) = true by rw [beq_iff_eq]; exact h]; rfl
  · rw [if_neg h, show (t.i == x) = false by rw [beq_eq_false_iff_ne]; exact h]

def predI : Nat → Int
  | 0 => -1
  | p + 1 => p
theorem predI_eq (j : Nat) : predI j = (j : Int) - 1 := by cases j with | zero => rfl | succ p => show (p : Int) = _; omega

/-- An append of transactions, be there any or none, to a row of one's own: a step of a region that draws. -/
theorem step_append_txns {P : Program} {w : World} {ops : Array Oper} {o : Oper} {a : Act} {K : Act → World → Prop} {Q : Exit → Act → World → Prop} {D : Prop} (hw : Region.wanted o (yielded ops a.tmps) = true) (s x : Operand) (t : TypeId)
    (ho : o.op = .call { callee := .builtin .append, args := #[s, x], argTypes := #[t, t] })
    (base : Nat) (e : TypeId) (i : TypeInfo) (z : Value) (bytes : Nat) (ht : P.underlying t = some (.slice e)) (hi : P.info? e = some i) (hz : i.zero = some z)
    (hsize : i.size = 4) (hby : i.bytes = bytes) (hzs : z.cells.size = 4)
    (v : Value) (n : Nat) (xs : List Value) (hs : a.eval s = v) (hown : w.ownsRow base e 4 v n xs)
    (ao : Option Addr) (m c : Nat) (l : List Ti) (hx : a.eval x = .slice ao m c) (hm : l.length = m) (hy : RdT w (.slice ao m c) l) (hnil : ao = none → m = 0 ∧ c = 0)
    (h63 : n + m ≤ maxLen) (hbytes : (n + m) * bytes ≤ 140737488355328) (hbase : base ≤ w.heap.size)
    (h : ∀ v' w', w'.ownsRow base e 4 v' (n + m) (xs ++ flatI l) → w.grownBy w' v.ownBlock → K (a.put o.dst v') w') :
    if Region.wanted o (yielded ops a.tmps) = true then Oper.wp P o a w K Q else D := by
  rw [if_pos hw]
  rcases ao with _ | ad
  · obtain ⟨rfl, rfl⟩ := hnil rfl
    have hl : l = [] := List.length_eq_zero_iff.1 hm
    subst hl
    have hrun := run_append_owned_none (P := P) (w := w) base t o.type e i 4 ht hi v n xs hown
    have hk := h v w (by simpa [flatI] using hown) ⟨rfl, rfl, rfl, Nat.le_refl _, fun _ _ _ => rfl⟩
    unfold Oper.wp
    simp [execOp, ho, resolve, invoke, builtin, hs, hx, hrun, Result.andThen]
    exact hk
  · refine wp_append_own w s x t ho base e i z 4 bytes ht hi hz hsize hby hzs (by decide) v n xs hs hown ad m c (flatI l) hx (by rw [flatI_len, hm]) (fun j u hj => ?_) (fun u hu => ?_) h63 hbytes hbase fun v' w' a b _ => h v' w' a b
    · obtain ⟨ao', cp, hv, hc⟩ := hy
      simp only [Value.slice.injEq] at hv
      have hlt : j < (flatI l).length := (List.getElem?_eq_some_iff.1 hj).1
      rw [flatI_len] at hlt
      obtain ⟨tt, htt⟩ : ∃ tt, l[j / 4]? = some tt := ⟨_, List.getElem?_eq_getElem (by omega)⟩
      obtain ⟨b, off, ha, hcell⟩ := hc (j / 4) tt htt
      have h1 := hcell (j % 4) (by omega)
      have h2 := flatI_at l (j / 4) tt htt (j % 4) (by omega)
      rw [show j / 4 * 4 + j % 4 = j by omega, hj] at h2
      rw [← hv.1] at ha
      cases ha
      rw [show (⟨b, off, none⟩ : Addr).add j = ⟨b, off + j, none⟩ by simp [Addr.add]]
      rw [show off + j = off + j / 4 * 4 + j % 4 by omega, h1, ← h2]
    · have : ∀ (l : List Ti), ∀ u ∈ flatI l, u.oneCell' = true := by
        intro l
        induction l with
        | nil => intro u hu; cases hu
        | cons t r ih =>
          intro u hu
          rw [flatI] at hu
          rcases List.mem_append.1 hu with h1 | h1
          · simp [Ti.cells] at h1
            rcases h1 with rfl | rfl | rfl | rfl <;> rfl
          · exact ih u h1
      exact this l u hu

set_option maxRecDepth 100000 in
theorem state_field (kx : Int) (w : World) : Sem.run Try.prog (Instr.field 26 (.agg #[.int .i64 kx, .int .i64 0, .int .i64 0, .int .i64 77]) 3) w = .ok (.int .i64 77) w := by rfl

theorem state_row {B : Nat} {w : World} {kx : Int} {l : List Ti} {len0 : Nat} {ao : Option Addr} {c : Nat} (h : w.ownsRow B 26 4 (.slice ao (1 + len0) c) (1 + len0) ([.int .i64 kx, .int .i64 0, .int .i64 0, .int .i64 77] ++ flatI l)) (hl : l.length = len0) :
    RdT w (.slice ao (1 + len0) c) (⟨kx, 0, 0, 77⟩ :: l) :=
  rdT_of_own (by rw [List.length_cons, hl, Nat.add_comm len0 1]; exact h)

set_option maxRecDepth 100000 in
set_option maxHeartbeats 8000000 in
theorem walk_StamState (a0 : Option Addr) (len0 cap0 : Nat) (l : List Ti) (id : Int) (w : World) (hl : l.length = len0) (hr : RdT w (.slice a0 len0 cap0) l) (hnil : a0 = none → len0 = 0 ∧ cap0 = 0) :
    Calls Try.prog 3 #[.slice a0 len0 cap0, .int .i64 id] w fun e w' => e = .returned (.bool true) ∧ Below w.heap.size w w' := by
  have HR := Lib.hid hr
  have HL := Lib.hid hl
  have HNL := Lib.hid hnil
  clear hr hl hnil
  by_cases h20 : len0 ≤ 20
  · have d20 : decide ((20 : Int) < (len0 : Int)) = false := by rw [decide_eq_false_iff_not]; omega
    obtain ⟨c7, hc7, hc71⟩ := and_some id 7 7 rfl (by decide)
    go_enter Try.func3, Try.ntmps3
    go_wp2_with fail
    have hz := heap_alloc_new w (.cells #[.int .i64 id, .int .i64 (c7 : Int)] 3)
    have HB1 := Lib.hid (below_alloc w (.cells #[.int .i64 id, .int .i64 (c7 : Int)] 3))
    have HR1 := Lib.hid (HR.out.kept (below_alloc w (.cells #[.int .i64 id, .int .i64 (c7 : Int)] 3)))
    obtain ⟨X, hX⟩ : ∃ X, X = w.heap.size := ⟨_, rfl⟩
    obtain ⟨W1, hW1⟩ : ∃ W1 : World, W1 = w.alloc (.cells #[.int .i64 id, .int .i64 (c7 : Int)] 3) := ⟨_, rfl⟩
    have H1 := Lib.hid (show X < W1.heap.size by rw [hX, hW1]; simp)
    rw [← hX, ← hW1] at hz ⊢
    rw [← hW1] at HB1 HR1
    have HZ := Lib.hid hz
    clear hz hX hW1
    go_loopw [18] (fun i wr => ∃ q : Nat, q ≤ 2 ∧ i = .int .i64 (q : Int) ∧ Below W1.heap.size W1 wr) (fun i _ => 2 - (intOf i).toNat)
    case atStart => exact ⟨0, by omega, rfl, Below.refl _ _⟩
    case round =>
      obtain ⟨q, hq, rfl, hbel⟩ := hrel
      obtain ⟨wo, rfl⟩ : ∃ wo : World, wo = wr := ⟨_, rfl⟩
      have HBO := Lib.hid hbel
      clear hbel
      by_cases hq2 : q < 2
      · have dq : decide ((q : Int) < 2) = true := by rw [decide_eq_true_eq]; omega
        obtain ⟨kx, hkx⟩ : ∃ kx : Int, W1.cell? ⟨X, q, none⟩ = some (.int .i64 kx) := by
          rcases (by omega : q = 0 ∨ q = 1) with rfl | rfl
          · exact ⟨id, (cells2 HZ.out).1⟩
          · exact ⟨c7, (cells2 HZ.out).2.1⟩
        have ck := (HBO.out.cell (p := ⟨X, q, none⟩) H1.out).trans hkx
        have HRO := Lib.hid (HR1.out.kept HBO.out)
        clear hkx
        have hz7 := heap_alloc_new wo (.cells #[.int .i64 0, .int .i64 0, .int .i64 0, .int .i64 0] 26)
        have HZ7 := Lib.hid hz7
        have HBA := Lib.hid (below_alloc wo (.cells #[.int .i64 0, .int .i64 0, .int .i64 0, .int .i64 0] 26))
        clear hz7
        go_wp2_with fail
        go_loopw [8] (fun i wr => ∃ j : Nat, j ≤ len0 ∧ i = .int .i64 (predI j) ∧ wr.heap[wo.heap.size]? = some (.cells #[.int .i64 (stateT (l.drop j) kx).i, .int .i64 (stateT (l.drop j) kx).s, .int .i64 (stateT (l.drop j) kx).b, .int .i64 (stateT (l.drop j) kx).e] 26 (0, 0)) ∧ Below wo.heap.size wo wr) (fun i _ => (intOf i + 1).toNat)
        case atStart => exact ⟨len0, Nat.le_refl _, by rw [predI_eq], by rw [show l.drop len0 = [] by rw [← HL.out, List.drop_length]]; exact HZ7.out, HBA.out⟩
        case round =>
          obtain ⟨j, hj, rfl, hzj, hbj⟩ := hrel
          obtain ⟨wi, rfl⟩ : ∃ wi : World, wi = wr := ⟨_, rfl⟩
          have HBI := Lib.hid hbj
          have HZI := Lib.hid hzj
          have HRI := Lib.hid (HRO.out.kept hbj)
          clear hbj hzj
          rcases j with _ | p
          · rw [show predI 0 = -1 from rfl]
            go_upto_region 12 with (fail)
            have hz : wi.heap[wo.heap.size]? = some (.cells #[.int .i64 (stateT l kx).i, .int .i64 (stateT l kx).s, .int .i64 (stateT l kx).b, .int .i64 (stateT l kx).e] 26 (0, 0)) := HZI.out
            have C1 := fun (w : World) (h : RdT w (.slice a0 len0 cap0) l) => Lib.hid (state_any _ l kx w h (by rw [HL.out]; omega))
            have C2 := fun (w : World) => Lib.hid (state_any (.slice none 0 0) [] kx w ⟨none, 0, rfl, fun k t ht => by cases ht⟩ (by simp))
            have C3 := fun (v : Value) (w : World) (h : RdT w v (⟨kx, 0, 0, 77⟩ :: l)) => Lib.hid (state_any v _ kx w h (by rw [List.length_cons, HL.out]; omega))
            rw [show stateT [] kx = Ti.zero from rfl] at C2
            rw [show stateT (⟨kx, 0, 0, 77⟩ :: l) kx = ⟨kx, 0, 0, 77⟩ by rw [state_cons, if_pos rfl]] at C3
            obtain ⟨⟨ti, ts, tb, te⟩, hT⟩ : ∃ T, T = stateT l kx := ⟨_, rfl⟩
            rw [← hT] at C1 hz
            unfold Ti.agg at C1 C2 C3
            unfold Ti.zero at C2
            simp only at C1 C2 C3 hz
            have HZ12 := Lib.hid hz
            obtain ⟨c0, c1, c2, c3⟩ := cells4 hz
            have H7 := Lib.hid (World.block_lt_of_cell? wi _ c0)
            obtain ⟨i0, hi0, hi1, hi2, hi3⟩ := info_parts infoTx
            have HBW := Lib.hid (show Below W1.heap.size W1 wi from HBO.out.trans (HBI.out.mono HBO.out.size))
            clear hT hz
            have hfd := fun w : World => state_field kx w
            go_region_law (first
              | (go_simp; go_at_call_of 16 (Value.slice a0 len0 cap0); refine (C1 _ ?_).out.mono ?_; (exact HRI.out.kept (below_drw _ _)); rintro z w2 ⟨rfl, hb2⟩; obtain ⟨d0, d1, d2, d3⟩ := cells4 ((hb2.block wo.heap.size H7.out).trans HZ12.out))
              | (go_simp; go_at_call_of 16 (Value.slice none 0 0); refine (C2 _).out.mono ?_; rintro z w3 ⟨rfl, hb3⟩; have HR3 := Lib.hid (((HRI.out.kept (below_drw _ wi)).kept hb2).kept hb3); have HRA := Lib.hid (HR3.out.kept (below_alloc w3 (.cells #[.int .i64 kx, .int .i64 0, .int .i64 0, .int .i64 77] 26))); have HOL := Lib.hid (World.ownsRow_lit (base := w3.heap.size) (size := 4) (e := 26) w3 #[.int .i64 kx, .int .i64 0, .int .i64 0, .int .i64 77] 1 (Nat.le_refl _) (by decide) rfl); have HB3 := Lib.hid (HBW.out.trans ((below_then (below_then (below_drw wi.heap.size wi) hb2) hb3).mono HBW.out.size)); clear hb2 hb3)
              | (refine step_append_txns (by rfl) (.tmp 55) (.tmp 56) _ (by rfl) w3.heap.size 26 i0 _ 32 Try.underlying22 hi0 hi1 hi2 hi3 rfl (.slice (some ⟨w3.heap.size, 0, none⟩) 1 1) 1 [.int .i64 kx, .int .i64 0, .int .i64 0, .int .i64 77] (by rfl) HOL.out a0 len0 cap0 l (by rfl) HL.out HRA.out HNL.out ?_ ?_ ?_ ?_; (unfold maxLen; omega); omega; (simp); intro v' w4 hown4 hgrow4; obtain ⟨oa4, oc4, hv4⟩ := own_shape hown4; subst hv4; have HR4 := Lib.hid (state_row hown4 HL.out); have HB4 := Lib.hid ((below_lay HB3.out (.cells #[.int .i64 kx, .int .i64 0, .int .i64 0, .int .i64 77] 26)).grown hgrow4 (below_lay HB3.out _).size (fun k e => by have := HB3.out.size; cases e; exact this)); clear hown4 hgrow4)
              | (go_simp; go_at_call 16; refine (C3 _ _ ?_).out.mono ?_; (exact HR4.out); rintro z w5 ⟨rfl, hb5⟩; have HB5 := Lib.hid (below_then HB4.out hb5); clear hb5))
            all_goals
              go_wp2_with fail
              go_roundw
              case rel => exact ⟨q + 1, by omega, by go_num, HB5.out⟩
              case measure => simp [intOf]; omega
          · rw [show predI (p + 1) = (p : Int) from rfl]
            have dp : decide ((0 : Int) ≤ (p : Int)) = true := by rw [decide_eq_true_eq]; omega
            obtain ⟨t, ht⟩ : ∃ t, l[p]? = some t := ⟨_, List.getElem?_eq_getElem (by rw [HL.out]; omega)⟩
            have hdr := drop_at ht
            obtain ⟨b, off, ha, hcell⟩ : ∃ b off, a0 = some ⟨b, off, none⟩ ∧ ∀ j, j < 4 → wi.cell? ⟨b, off + p * 4 + j, none⟩ = t.cells[j]? := by
              obtain ⟨ao', cp, hv, hc⟩ := HRI.out
              simp only [Value.slice.injEq] at hv
              obtain ⟨b, off, h1, h2⟩ := hc p t ht
              exact ⟨b, off, hv.1.trans h1, h2⟩
            subst ha
            have k0 : wi.cell? ⟨b, off + p * 4, none⟩ = some (.int .i64 t.i) := hcell 0 (by decide)
            have k1 : wi.cell? ⟨b, off + p * 4 + 1, none⟩ = some (.int .i64 t.s) := hcell 1 (by decide)
            have k2 : wi.cell? ⟨b, off + p * 4 + 2, none⟩ = some (.int .i64 t.b) := hcell 2 (by decide)
            have k3 : wi.cell? ⟨b, off + p * 4 + 3, none⟩ = some (.int .i64 t.e) := hcell 3 (by decide)
            obtain ⟨c0, c1, c2, c3⟩ := cells4 HZI.out
            obtain ⟨f0, f1, f2, f3⟩ := froz4 HZI.out
            have HDR := Lib.hid hdr
            clear hcell ht hdr
            by_cases hti : t.i = kx
            · have hqi : (t.i == kx) = true := by rw [beq_iff_eq]; exact hti
              have HS := Lib.hid (show stateT (l.drop p) kx = t by rw [HDR.out, state_cons, if_pos hti])
              have HE := Lib.hid (four_heap (a' := .int .i64 t.i) (b' := .int .i64 t.s) (c' := .int .i64 t.b) (d' := .int .i64 t.e) HZI.out)
              have HBS := Lib.hid (HBI.out.trans (((((Below.refl wo.heap.size wi).setCell (p := ⟨wo.heap.size, 0, none⟩) (Nat.le_refl _) (.int .i64 t.i)).setCell (p := ⟨wo.heap.size, 1, none⟩) (Nat.le_refl _) (.int .i64 t.s)).setCell (p := ⟨wo.heap.size, 2, none⟩) (Nat.le_refl _) (.int .i64 t.b)).setCell (p := ⟨wo.heap.size, 3, none⟩) (Nat.le_refl _) (.int .i64 t.e)))
              subst hti
              go_wp2_with fail
              go_roundw
              case rel => exact ⟨p, by omega, by rw [predI_eq], by rw [HS.out]; exact HE.out, HBS.out⟩
              case measure => simp [intOf]
            · have hqi : (t.i == kx) = false := by rw [beq_eq_false_iff_ne]; exact hti
              have HS := Lib.hid (show stateT (l.drop p) kx = stateT (l.drop (p + 1)) kx by rw [HDR.out, state_cons, if_neg hti])
              clear hti c0 c1 c2 c3 f0 f1 f2 f3
              go_wp2_with fail
              go_roundw
              case rel => exact ⟨p, by omega, by rw [predI_eq], by rw [HS.out]; exact HZI.out, HBI.out⟩
              case measure => simp [intOf]
      · have dq : decide ((q : Int) < 2) = false := by rw [decide_eq_false_iff_not]; omega
        have HBF := Lib.hid (HB1.out.trans (HBO.out.mono HB1.out.size))
        go_wp2_with fail
        refine (awake11_any _).mono ?_
        rintro z w3 ⟨rfl, hb⟩
        have HB3 := Lib.hid (below_then HBF.out hb)
        clear hb
        go_wp2_with fail
        go_ret
        exact ⟨rfl, HB3.out⟩
  · have d20 : decide ((20 : Int) < (len0 : Int)) = true := by rw [decide_eq_true_eq]; omega
    go_enter Try.func3, Try.ntmps3
    go_wp2_with fail
    refine (awake11_any _).mono ?_
    rintro z w1 ⟨rfl, hb⟩
    have HB1 := Lib.hid hb
    clear hb
    go_wp2_with fail
    go_ret
    exact ⟨rfl, HB1.out⟩

end Go.Proofs.Ytnjeoolbnanmiaa
