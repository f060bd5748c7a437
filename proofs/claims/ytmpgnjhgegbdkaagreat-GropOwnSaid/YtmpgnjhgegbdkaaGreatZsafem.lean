import Derived.Test.YtmpgnjhgegbdkaaGreatLsix
import Derived.Test.YtmpgnjhgegbdkaaGreatLseven
import Derived.Test.YtmpgnjhgegbdkaaGreatNtim
import Derived.Deep.RegionLaw
import Derived.Deep.CutBlock
import Derived.Deep.DeepCutAuto
import Derived.Test.YtmpgnjhgegbdkaaGreatZof2
set_option linter.unusedVariables false
set_option linter.unusedSimpArgs false
namespace Go.Proofs.YtmpgnjhgegbdkaaGreat
open Go.RowKit
open _root_.List renaming length_map -> Qa, mem_map -> Qb, getD_eq_getElem?_getD -> Qc, getElem?_eq_getElem -> Qd
theorem zLt (n : Int) : Kinds (kindsOf n) ∧ (kindsOf n).length <= 5 := by
 refine ⟨fun c hc => ?_, ?_⟩
 ·unfold kindsOf at hc
  obtain ⟨k, _, rfl⟩ := Qb.1 hc
  show _ % 2 + 1 = 1 ∨ _ % 2 + 1 = 2
  omega
 ·unfold kindsOf
  rw [Qa, List.length_range]
  omega
def colsN (n : Int) : List Co := colsOf (kindsOf n)
theorem zIf (n : Int) : ColsOk (colsN n) := zPb (zLt n).1 (zLt n).2
theorem zHh (n : Int) : (colsN n).length = (kindsOf n).length + 1 := zF8 _
theorem zP0 (n : Int) (w : World) :
  Calls Tryz.prog 13 #[.int .i64 n] w fun e w' => ∃ ao cap, e = .returned (.agg #[.slice ao (colsN n).length cap]) ∧ RdSK w.heap.size w' 3 (.slice ao (colsN n).length cap) ((colsN n).map Co.cells) ∧ Below w.heap.size w w' := by
 refine (zO8 n w).mono ?_
 rintro e w' ⟨ao, cap, l, rfl, h2, h3, h4, h5, rfl⟩
 refine ⟨ao, cap, by rw [zHh], ?_, h5⟩
 rw [zHh]
 exact zH4 (ls := (colsN n).map Co.cells) (by rw [zQq] at h4; exact h4) (by rw [Qa, zHh]) (fun t ht => by obtain ⟨x, _, rfl⟩ := Qb.1 ht; rfl)
theorem results_cell_tmp {P : Program} {fn : Func} {p q : Tmp} {ty : TypeId} (h : fn.results = #[.cell p ty, .tmp q]) (tmps : Array Value) (w : World) (g : Nat) (t : TypeId) (cs : Array Value) (fr : Nat × Nat) (d : TypeDesc) (v : Value)
  (hp : tmps.getD p undef = .pointer (some ⟨g, 0, none⟩)) (hq : tmps.getD q undef = v) (hg : w.heap[g]? = some (.cells cs t fr))
  (hu : P.underlying ty = some d) (hd : (match d with | .struct _ | .array _ _ => true | _ => false) = true) (hi : (P.info? ty).map (·.size) = some cs.size) :
  (results fn tmps).run P w = .ok (.tuple #[.agg cs, v]) w := by
 have hp' : tmps[p]?.getD undef = .pointer (some ⟨g, 0, none⟩) := by simpa using hp
 have hq' : tmps[q]?.getD undef = v := by simpa using hq
 simp [results, h, hp', hq', asAddr, run_loadVar_row w g t ty cs fr d hg hu hd hi]
theorem zPz {K : Nat} {w : World} {s : Value} {bs : List Nat} (h : Rd w s (bs.map u8v)) (hf : FreshV K s) : RdB K w s bs := by
 obtain ⟨ao, cap, rfl, hn, hc⟩ := h
 simp only [Qa] at hn hc hf ⊢
 refine ⟨ao, cap, rfl, hn, fun hp => ?_⟩
 obtain ⟨b, off, rfl, h3⟩ := hc hp
 refine ⟨b, off, rfl, hf _ _ _ rfl, fun i hi => ?_⟩
 rw [h3 i hi, Qc, Qc, List.getElem?_map, Qd hi]
 rfl
theorem zQ8 {w w' : World} {l : List (Vc × Value)} {v : Value} (h : OInv w l v w') (hne : 0 < l.length) : ∃ g cap, v = .slice (some ⟨g, 0, none⟩) l.length cap := by
 rcases h.own.2 with ⟨_, h0⟩ | ⟨g, cap, cur, hv, _⟩
 ·omega
 ·exact ⟨g, cap, hv⟩
theorem zM9 (v : Value) (cols : List Co) (hne : 0 < cols.length) (n : Int) (w : World) (hv : RdC w v cols) (hl : cols.length <= 6) :
  Calls Tryz.prog 14 #[.agg #[v], .int .i64 n] w fun e w' => ∃ (g cap : Nat) (l : List (Vc × Value)), e = .returned (.slice (some ⟨g, 0, none⟩) cols.length cap) ∧ l.map Prod.fst = rowOf cols n ∧ w'.ownsRow w.heap.size 31 4 (.slice (some ⟨g, 0, none⟩) cols.length cap) cols.length (l.map cellsV).flatten ∧ (∀ t ∈ l, RdB w.heap.size w' t.2 t.1.b ∧ (∀ x ∈ t.1.b, x < 256) ∧ FarV g t) ∧ Below w.heap.size w w' := by
 refine (zSv v cols n w hv hl).mono ?_
 rintro e w' ⟨u, l, rfl, h1, h2, h3, h4⟩
 have hlen : l.length = cols.length := by have := congrArg List.length h1; rw [Qa, zDa] at this; exact this
 obtain ⟨g, cap, rfl⟩ := zQ8 h2 (by omega)
 have ho := h2.own
 rw [hlen] at ho
 refine ⟨g, cap, l, by rw [hlen], h1, ho, fun t ht => ⟨zPz (h2.ok t ht).1 (h4 t ht), (h2.ok t ht).2, h2.far t ht g rfl⟩, h3⟩
theorem zHr {K : Nat} {w : World} {t : Vc × Value} {g i : Nat} {u : Value} (h : RdB K w t.2 t.1.b) (hf : FarV g t) : RdB K (w.setCell ⟨g, i, none⟩ u) t.2 t.1.b := by
 obtain ⟨ao, cap, hv, hn, hc⟩ := h
 refine ⟨ao, cap, hv, hn, fun hp => ?_⟩
 obtain ⟨b, off, ha, hk, hcell⟩ := hc hp
 refine ⟨b, off, ha, hk, fun j hj => ?_⟩
 have hne : b ≠ g := hf (fun e => by rw [e] at hp; cases hp) ⟨b, off, none⟩ _ _ (by rw [hv, ha])
 rw [<- hcell j hj]
 exact World.cell?_of_block (heap_setCell_other w ⟨g, i, none⟩ b u hne)
theorem zJv {t : Vc × Value} {r : List (Vc × Value)} (x : Int) : (((t :: r).map cellsV).flatten).set 2 (.int .i64 x) = (((⟨t.1.u, t.1.k, x, t.1.b⟩, t.2) :: r).map cellsV).flatten := by
 obtain ⟨⟨u, k, n, b⟩, s⟩ := t
 rfl
def rows9 (cols : List Co) (l : List Int) : List (List Vc) := (l.take 40).mapIdx fun i n => (rowOf cols n).set 0 ⟨false, 1, (i : Int) * 3 + n % 2, []⟩
theorem zNa : Elm Tryz.prog 26 27 1 24 := by
 have h : (Tryz.prog.info? 27).map (fun i => (i.zero, i.size, i.bytes)) = some (some (.slice none 0 0), 1, 24) := by kernel_rfl
 cases hq : Tryz.prog.info? 27 with
 | none => rw [hq] at h; cases h
 | some i =>
  rw [hq] at h
  simp only [Option.map_some, Option.some.injEq, Prod.mk.injEq] at h
  exact ⟨Tryz.underlying26, ⟨i, _, hq, h.1, h.2.1, h.2.2, rfl⟩, by decide, by decide⟩
def OwnR (B : Nat) (w : World) (v : Value) (L : List (List (Vc × Value))) : Prop :=
 ∃ sls, w.ownsRow B 27 1 v L.length sls ∧ sls.length = L.length ∧ ∀ (i : Nat) (s : Value) (l : List (Vc × Value)), sls[i]? = some s -> L[i]? = some l -> Free (fun b => v.ownBlock = some b) w (fun w' => RdP w' s l)
theorem OwnR.rd {B : Nat} {w : World} {v : Value} {L : List (List (Vc × Value))} (h : OwnR B w v L) : RdRs w v L := by
 obtain ⟨sls, h1, h2, h3⟩ := h
 exact ⟨sls, Rd.of_owns h1, h2, fun i s l hs hl => (h3 i s l hs hl).now⟩
def RdZV (w : World) (v : Value) (zs : List Zv) : Prop := RdS w 9 v (zs.map cellsZ) ∧ ∀ z ∈ zs, OkZ w z
theorem RdZV.kept {w w' : World} {v : Value} {zs : List Zv} (h : RdZV w v zs) (hb : Below w.heap.size w w') : RdZV w' v zs := ⟨h.1.kept hb, fun z hz => (h.2 z hz).kept hb⟩
def OfK (kd : Int) (v : Vc) : Prop := NormV v ∧ v.k = kd
def ColK (kd : Int) (c : Nat) (rows : List (List Vc)) : Prop := ∀ r ∈ rows, ∃ v, r[c]? = some v ∧ OfK kd v
def RowsK (cols : List Co) (rows : List (List Vc)) : Prop := ∀ r ∈ rows, r.length = cols.length ∧ ∀ (i : Nat) (c : Co) (v : Vc), cols[i]? = some c -> r[i]? = some v -> OfK c.k v
theorem RowsK.col {cols : List Co} {rows : List (List Vc)} (h : RowsK cols rows) {i : Nat} {c : Co} (hc : cols[i]? = some c) : ColK c.k i rows := fun r hr => by
 have hi := (List.getElem?_eq_some_iff.1 hc).1
 obtain ⟨h1, h2⟩ := h r hr
 have h3 : r[i]? = some r[i] := Qd (by rw [h1]; exact hi)
 exact ⟨_, h3, h2 i c _ hc h3⟩
end Go.Proofs.YtmpgnjhgegbdkaaGreat
