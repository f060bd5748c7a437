/-
  Contract of turn of layer 16: rows of one's own are turned, nothing else is.
  Contract of aggr.became, of any value and any change.
  Contract of aggr.Set, of any row and any changes.
  Layer 9's Rows: the outer slice is one's own, its rows stay whatever becomes of it.
  Two slices of rows, one's own, and what is told of one of them.
-/
import Derived.Test.YtnfjdoeemnhkbaaAgl
import Derived.Test.YtnfjdoeemnhkbaaFrvo
import Derived.Test.YtnfjdoeemnhkbaaHeld
import Derived.Test.YtnfjdoeemnhkbaaRow9
import Derived.Test.YtnfjdoeemnhkbaaAgr
import Derived.Test.YtnfjdoeemnhkbaaAgtm
namespace Go.Proofs.Ytnfjdoeemnhkbaa
set_option linter.unusedVariables false
set_option linter.unusedSimpArgs false
open Go.RowKit

/-- A cell written: what a slice of one's own reads behind it. -/
theorem own_set {K sz m R j : Nat} {w : World} {T : TypeId} {z u : Value} {xs : List Value} (h : w.ownsRow K T sz z m xs) : ∃ ys, (w.setCell ⟨R, j, none⟩ u).ownsRow K T sz z m ys ∧ (ys = xs ∨ (z.ownBlock = some R ∧ ys = xs.set j u)) := by
  by_cases hz : z.ownBlock = some R
  · rcases h.2 with ⟨rfl, _⟩ | ⟨g, cap, cur, rfl, _⟩
    · cases hz
    · cases hz
      exact ⟨_, (h.stored j u).1, .inr ⟨rfl, rfl⟩⟩
  · exact ⟨xs, ownsRow_agree h (agree_set (fun b => b = R) w ⟨R, j, none⟩ u rfl) fun b hb e => hz (by rw [hb, e]), .inl rfl⟩
/-- What stands while rows are turned: their shape. -/
structure TurnI (K : Nat) (E : List El) (v : Value) (n : Nat) (w : World) : Prop where
  own : w.ownsRow K 33 1 v n (E.map Prod.fst)
  row : ∀ x ∈ E, ∃ xs, w.ownsRow K 36 4 x.1 x.2.length xs ∧ ∀ (i : Nat) (t : Vc × Value), x.2[i]? = some t → (∃ c : Int, xs[i * 4 + 2]? = some (.int .i64 c)) ∧ xs[i * 4 + 3]? = some t.2
  byt : ∀ x ∈ E, ∀ t ∈ x.2, ∃ cs : List Int, cs.length = t.1.b.length ∧ w.ownsRow K 5 1 t.2 t.1.b.length (cs.map (Value.int .u8))
theorem TurnI.of {K : Nat} {w : World} {v : Value} {E : List El} (h : OwnD K w v E) : TurnI K E v E.length w := by
  refine ⟨h.1, fun x hx => ⟨_, (h.2 x hx).2.2.1, fun i t ht => ?_⟩, fun x hx t ht => ⟨t.1.b.map fun (c : Nat) => (c : Int), by rw [List.length_map], ?_⟩⟩
  · have hc : (x.2.map cellsV)[i]? = some (cellsV t) := by rw [List.getElem?_map, ht]; rfl
    have hl : ∀ u ∈ x.2.map cellsV, u.length = 4 := fun u hu => by obtain ⟨y, _, rfl⟩ := List.mem_map.1 hu; rfl
    exact ⟨⟨_, flatten_at _ 4 hl i _ 2 _ hc rfl⟩, flatten_at _ 4 hl i _ 3 _ hc rfl⟩
  · have := (h.2 x hx).2.2.2 t ht
    rw [List.map_map]
    exact this
theorem TurnI.int {K n R i m cap : Nat} {E : List El} {v : Value} {w : World} {x : El} (h : TurnI K E v n w) (hx : x ∈ E) (hs : x.1 = .slice (some ⟨R, 0, none⟩) m cap) (c : Int) : TurnI K E v n (w.setCell ⟨R, i * 4 + 2, none⟩ (.int .i64 c)) := by
  obtain ⟨xs, hxo, _⟩ := h.row x hx
  have hb : x.1.ownBlock = some R := by rw [hs]; rfl
  have hset : Agree (fun b => b = R) w (w.setCell ⟨R, i * 4 + 2, none⟩ (.int .i64 c)) := agree_set _ w ⟨R, i * 4 + 2, none⟩ _ rfl
  refine ⟨ownsRow_agree h.own hset fun b hb2 e => own_two hxo h.own (by decide) hb (by rw [hb2, e]), fun y hy => ?_, fun y hy t ht => ?_⟩
  · obtain ⟨ys, hyo, hsh⟩ := h.row y hy
    obtain ⟨zs, hzo, hz⟩ := own_set (R := R) (j := i * 4 + 2) (u := .int .i64 c) hyo
    refine ⟨zs, hzo, fun k t ht => ?_⟩
    obtain ⟨⟨d, hd⟩, h3⟩ := hsh k t ht
    rcases hz with rfl | ⟨_, rfl⟩
    · exact ⟨⟨d, hd⟩, h3⟩
    · refine ⟨?_, by rw [List.getElem?_set_ne (by omega)]; exact h3⟩
      by_cases hki : i * 4 + 2 = k * 4 + 2
      · rw [hki, List.getElem?_set_self (List.getElem?_eq_some_iff.1 hd).1]
        exact ⟨c, rfl⟩
      · rw [List.getElem?_set_ne hki]
        exact ⟨d, hd⟩
  · obtain ⟨cs, hl, ho⟩ := h.byt y hy t ht
    exact ⟨cs, hl, ownsRow_agree ho hset fun b hb2 e => own_two hxo ho (by decide) hb (by rw [hb2, e])⟩
theorem TurnI.byte {K n R j m cap : Nat} {E : List El} {v : Value} {w : World} {x : El} {t : Vc × Value} (h : TurnI K E v n w) (hx : x ∈ E) (ht : t ∈ x.2) (hs : t.2 = .slice (some ⟨R, 0, none⟩) m cap) (c : Int) : TurnI K E v n (w.setCell ⟨R, j, none⟩ (.int .u8 c)) := by
  obtain ⟨cs, _, hxo⟩ := h.byt x hx t ht
  have hb : t.2.ownBlock = some R := by rw [hs]; rfl
  have hset : Agree (fun b => b = R) w (w.setCell ⟨R, j, none⟩ (.int .u8 c)) := agree_set _ w ⟨R, j, none⟩ _ rfl
  refine ⟨ownsRow_agree h.own hset fun b hb2 e => own_two hxo h.own (by decide) hb (by rw [hb2, e]), fun y hy => ?_, fun y hy u hu => ?_⟩
  · obtain ⟨ys, hyo, hsh⟩ := h.row y hy
    exact ⟨ys, ownsRow_agree hyo hset fun b hb2 e => own_two hxo hyo (by decide) hb (by rw [hb2, e]), hsh⟩
  · obtain ⟨ds, hl, ho⟩ := h.byt y hy u hu
    obtain ⟨zs, hzo, hz⟩ := own_set (R := R) (j := j) (u := .int .u8 c) ho
    rcases hz with rfl | ⟨_, rfl⟩
    · exact ⟨ds, hl, hzo⟩
    · exact ⟨ds.set j c, by rw [List.length_set, hl], by rw [List.map_set]; exact hzo⟩
set_option maxRecDepth 100000 in
set_option maxHeartbeats 8000000 in
theorem turn_any (K : Nat) (E : List El) (v : Value) (n : Nat) (w : World) (h : TurnI K E v n w) (hn : n = E.length) (hn6 : n ≤ 1000000) (hs : ∀ x ∈ E, x.2.length ≤ 1000000 ∧ ∀ t ∈ x.2, t.1.b.length ≤ 1000000) :
    Calls Try.prog 14 #[v] w fun e w' => e = .returned (.tuple #[]) ∧ TurnI K E v n w' ∧ Below K w w' := by
  obtain ⟨ao, cap, rfl⟩ := own_shape h.own
  have HN := Lib.hid hn
  have HI := Lib.hid h
  have HSM := Lib.hid hs
  clear h hn hs
  go_enter Try.func14, Try.ntmps14
  go_wp2_with fail
  go_loopw [8] (fun i wr => ∃ q : Nat, q ≤ n ∧ i = .int .i64 (q : Int) ∧ TurnI K E (.slice ao n cap) n wr ∧ Below K w wr) (fun i _ => n - (intOf i).toNat)
  case atStart => exact ⟨0, Nat.zero_le _, rfl, HI.out, Below.refl _ _⟩
  case round =>
    obtain ⟨q, hq, rfl, hI, hb⟩ := hrel
    have HIq := Lib.hid hI
    have HBq := Lib.hid hb
    clear hI hb
    by_cases hlt : q < n
    · obtain ⟨x, hx⟩ : ∃ x, E[q]? = some x := ⟨_, List.getElem?_eq_getElem (by rw [← HN.out]; exact hlt)⟩
      have hxm := List.mem_of_getElem? hx
      obtain ⟨ga, hga⟩ := own_isAtA HIq.out.own (by omega)
      subst hga
      obtain ⟨xs0, hx0, _⟩ := HIq.out.row x hxm
      obtain ⟨xa, xc, hxs⟩ := own_shape hx0
      have c1 : wr.cell? ⟨ga, q, none⟩ = some x.1 := (HIq.out.own.cellAt q (by omega)).trans (by rw [List.getElem?_map, hx]; rfl)
      obtain ⟨xm, hxn⟩ : ∃ xm, xm = x.2.length := ⟨_, rfl⟩
      rw [← hxn] at hxs
      rw [hxs] at c1
      have HXN := Lib.hid hxn
      have HXS := Lib.hid hxs
      have HXM := Lib.hid hxm
      have hx6 : xm ≤ 1000000 := by rw [hxn]; exact (HSM.out x hxm).1
      have hlti : (q : Int) < (n : Int) := by omega
      have hq0 : (0 : Int) ≤ (q : Int) := by omega
      have hq1 : IntKind.i64.wrap ((q : Int) + 1) = (q : Int) + 1 := IntWalk.i64_in _ (by omega)
      clear hx hxm hx0 hxn hxs
      go_wp2_with fail
      clear c1
      go_loopw [14] (fun i wr => ∃ k : Nat, k ≤ xm ∧ i = .int .i64 (k : Int) ∧ TurnI K E (.slice (some ⟨ga, 0, none⟩) n cap) n wr ∧ Below K w wr) (fun i _ => xm - (intOf i).toNat)
      case atStart => exact ⟨0, Nat.zero_le _, rfl, HIq.out, HBq.out⟩
      case round =>
        obtain ⟨k, hk, rfl, hI, hb⟩ := hrel
        have HIk := Lib.hid hI
        have HBk := Lib.hid hb
        clear hI hb
        by_cases hltk : k < xm
        · obtain ⟨t, ht⟩ : ∃ t, x.2[k]? = some t := ⟨_, List.getElem?_eq_getElem (by rw [← HXN.out]; exact hltk)⟩
          obtain ⟨xs, hxo, hsh⟩ := HIk.out.row x HXM.out
          rw [HXS.out, ← HXN.out] at hxo
          obtain ⟨R, hR⟩ := own_isAtA hxo (by omega)
          have HXS2 := Lib.hid (show x.1 = .slice (some ⟨R, 0, none⟩) xm xc by rw [HXS.out, hR])
          subst hR
          obtain ⟨⟨c, hc⟩, h3⟩ := hsh k t ht
          have c2 : wr.cell? ⟨R, k * 4 + 2, none⟩ = some (.int .i64 c) := (hxo.cellAt (k * 4 + 2) (by omega)).trans hc
          have f2 := hxo.frozenAt (k * 4 + 2)
          have hKR : K ≤ R := (hxo.lt R rfl).1
          obtain ⟨c', hc'⟩ : ∃ c', c' = IntKind.i64.wrap (c + 1) := ⟨_, rfl⟩
          have hcw : IntKind.i64.wrap (c + 1) = c' := hc'.symm
          have HI2 := Lib.hid (HIk.out.int (i := k) HXM.out HXS2.out c')
          have HB2 := Lib.hid (HBk.out.setCell (p := ⟨R, k * 4 + 2, none⟩) hKR (.int .i64 c'))
          have HTM := Lib.hid (List.mem_of_getElem? ht)
          have HT := Lib.hid ht
          have hlki : (k : Int) < (xm : Int) := by omega
          have hk0 : (0 : Int) ≤ (k : Int) := by omega
          have hk1 : IntKind.i64.wrap ((k : Int) + 1) = (k : Int) + 1 := IntWalk.i64_in _ (by omega)
          clear ht hxo hsh hc h3 hc'
          go_upto_region 7 with (fail)
          clear c2 f2 hcw
          obtain ⟨w1, hw1⟩ : ∃ w1 : World, w1 = wr.setCell ⟨R, k * 4 + 2, none⟩ (.int .i64 c') := ⟨_, rfl⟩
          rw [← hw1] at HI2 HB2 ⊢
          clear hw1
          obtain ⟨xs, hxo, hsh⟩ := HI2.out.row x HXM.out
          rw [HXS2.out, ← HXN.out] at hxo
          have c3 : w1.cell? ⟨R, k * 4 + 3, none⟩ = some t.2 := (hxo.cellAt (k * 4 + 3) (by omega)).trans (hsh k t HT.out).2
          obtain ⟨bs, hbl, hbo⟩ := HI2.out.byt x HXM.out t HTM.out
          obtain ⟨ta, tc, hts⟩ := own_shape hbo
          obtain ⟨tm, htm⟩ : ∃ tm, tm = t.1.b.length := ⟨_, rfl⟩
          rw [← htm] at hts
          rw [hts] at c3
          have HTS := Lib.hid hts
          have HTL := Lib.hid htm
          have ht6 : tm ≤ 1000000 := by rw [htm]; exact (HSM.out x HXM.out).2 t HTM.out
          clear hxo hsh hbl hbo hts htm
          go_wp2_with fail
          clear c3
          go_loopw [31] (fun i wr => ∃ j : Nat, j ≤ tm ∧ i = .int .i64 (j : Int) ∧ TurnI K E (.slice (some ⟨ga, 0, none⟩) n cap) n wr ∧ Below K w wr) (fun i _ => tm - (intOf i).toNat)
          case atStart => exact ⟨0, Nat.zero_le _, rfl, HI2.out, HB2.out⟩
          case round =>
            obtain ⟨j, hj, rfl, hI, hb⟩ := hrel
            have HIj := Lib.hid hI
            have HBj := Lib.hid hb
            clear hI hb
            by_cases hltj : j < tm
            · obtain ⟨xs, hxo, hsh⟩ := HIj.out.row x HXM.out
              rw [HXS2.out, ← HXN.out] at hxo
              have c3 : wr.cell? ⟨R, k * 4 + 3, none⟩ = some t.2 := (hxo.cellAt (k * 4 + 3) (by omega)).trans (hsh k t HT.out).2
              obtain ⟨bs, hbl, hbo⟩ := HIj.out.byt x HXM.out t HTM.out
              rw [HTS.out, ← HTL.out] at hbo
              rw [HTS.out] at c3
              obtain ⟨B, hB⟩ := own_isAtA hbo (by omega)
              have HTS2 := Lib.hid (show t.2 = .slice (some ⟨B, 0, none⟩) tm tc by rw [HTS.out, hB])
              subst hB
              obtain ⟨d, hd⟩ : ∃ d, bs[j]? = some d := ⟨_, List.getElem?_eq_getElem (by rw [hbl, ← HTL.out]; exact hltj)⟩
              have c4 : wr.cell? ⟨B, j, none⟩ = some (.int .u8 d) := (hbo.cellAt j (by omega)).trans (by rw [List.getElem?_map, hd]; rfl)
              have f4 := hbo.frozenAt j
              have hKB : K ≤ B := (hbo.lt B rfl).1
              obtain ⟨d', hd'⟩ : ∃ d', d' = IntKind.u8.wrap (d + 1) := ⟨_, rfl⟩
              have hdw : IntKind.u8.wrap (d + 1) = d' := hd'.symm
              have HI3 := Lib.hid (HIj.out.byte (j := j) HXM.out HTM.out HTS2.out d')
              have HB3 := Lib.hid (HBj.out.setCell (p := ⟨B, j, none⟩) hKB (.int .u8 d'))
              have hlji : (j : Int) < (tm : Int) := by omega
              have hj0 : (0 : Int) ≤ (j : Int) := by omega
              have hj1 : IntKind.i64.wrap ((j : Int) + 1) = (j : Int) + 1 := IntWalk.i64_in _ (by omega)
              clear hxo hsh hbl hbo hd hd'
              go_wp2_with fail
              go_roundw
              case rel => exact ⟨j + 1, by omega, by go_num, HI3.out, HB3.out⟩
              case measure => simp [intOf]; omega
            · have hlji : ¬ (j : Int) < (tm : Int) := by omega
              go_wp2_with fail
              go_roundw
              case rel => exact ⟨k + 1, by omega, by go_num, HIj.out, HBj.out⟩
              case measure => simp [intOf]; omega
        · have hlki : ¬ (k : Int) < (xm : Int) := by omega
          go_wp2_with fail
          go_roundw
          case rel => exact ⟨q + 1, by omega, by go_num, HIk.out, HBk.out⟩
          case measure => simp [intOf]; omega
    · have hlti : ¬ (q : Int) < (n : Int) := by omega
      go_wp2_with fail
      go_end0
      exact ⟨rfl, HIq.out, HBq.out⟩

end Go.Proofs.Ytnfjdoeemnhkbaa

namespace Go.Proofs.Ytnfjdoeemnhkbaa
set_option linter.unusedVariables false
set_option linter.unusedSimpArgs false
open Go.RowKit

/-- A change: the column, whether it is added, the value, and where its bytes lie. -/
structure SetP where
  col : Int
  add : Bool
  v : Vc
  s : Value
def setC (x : SetP) : List Value := [.int .i64 x.col, .bool x.add, .bool x.v.u, .int .i64 x.v.k, .int .i64 x.v.n, x.s]
/-- What a value becomes. -/
def becT (t v : Vc) (add : Bool) : Option Vc :=
  if add = false then some v else if t.u = true then some t else if -9223372036854775808 ≤ t.n + v.n ∧ t.n + v.n < 9223372036854775808 then some ⟨t.u, t.k, t.n + v.n, t.b⟩ else none
def RetB (w : World) (t : Vc × Value) (o : Option Vc) (e : Ending) (w' : World) : Prop := match o with
  | none => e = .returned (.tuple #[.agg #[.bool false, .int .i64 0, .int .i64 0, .slice none 0 0], .bool false])
  | some r => ∃ s', e = .returned (.tuple #[aggV (r, s'), .bool true]) ∧ (s' = t.2 ∧ r.b = t.1.b ∨ (w'.ownsRow w.heap.size 5 1 s' r.b.length (r.b.map u8v)))
theorem wrap_dn {n : Int} (h1 : 9223372036854775808 ≤ n) (h2 : n < 18446744073709551616) : IntKind.i64.wrap n = n - 18446744073709551616 := by
  rw [IntWalk.i64_left]
  unfold wrap64
  omega
theorem wrap_up {n : Int} (h1 : n < -9223372036854775808) (h2 : -18446744073709551616 ≤ n) : IntKind.i64.wrap n = n + 18446744073709551616 := by
  rw [IntWalk.i64_left]
  unfold wrap64
  omega
set_option maxRecDepth 100000 in
set_option maxHeartbeats 8000000 in
theorem became_any (t v : Vc) (ts vs : Value) (col : Int) (add : Bool) (w : World) (ht : ∃ ta tm tc, ts = .slice ta tm tc) (hv : OkV w (v, vs)) (hbig : v.b.length ≤ 1000000) (hti : I64 t.n) (hvi : I64 v.n) :
    Calls Try.prog 52 #[aggV (t, ts), .agg (setC ⟨col, add, v, vs⟩).toArray] w fun e w' => RetB w (t, ts) (becT t v add) e w' ∧ Below w.heap.size w w' := by
  obtain ⟨ta, tm, tc, rfl⟩ := ht
  obtain ⟨sa, sc, hs⟩ := rd_shape8 hv.1
  obtain ⟨sm, hsm⟩ : ∃ sm, sm = v.b.length := ⟨_, rfl⟩
  simp only at hs
  rw [← hsm] at hs
  subst hs
  have HV := Lib.hid hv
  have HBG := Lib.hid hbig
  obtain ⟨tu, tk, tn, tb⟩ := t
  obtain ⟨vu, vk, vn, vb⟩ := v
  unfold I64 at hti hvi
  simp only at hti hvi hsm
  unfold aggV setC
  simp only
  obtain ⟨V, hV⟩ : ∃ V : World, V = (w.alloc (.cells #[.bool tu, .int .i64 tk, .int .i64 tn, .slice ta tm tc] 36)).alloc (.cells #[.int .i64 col, .bool add, .bool vu, .int .i64 vk, .int .i64 vn, .slice sa sm sc] 46) := ⟨_, rfl⟩
  obtain ⟨W, hW⟩ : ∃ W : World, W = V.alloc (.cells #[.bool false, .int .i64 0, .int .i64 0, .slice none 0 0] 36) := ⟨_, rfl⟩
  obtain ⟨X, hX⟩ : ∃ X, X = w.heap.size := ⟨_, rfl⟩
  obtain ⟨Y, hY⟩ : ∃ Y, Y = w.heap.size + 1 := ⟨_, rfl⟩
  obtain ⟨U, hU⟩ : ∃ U, U = w.heap.size + 1 + 1 := ⟨_, rfl⟩
  have hbV : Below w.heap.size w V := by rw [hV]; exact below2 w _ _
  have hsV : V.heap.size = w.heap.size + 2 := by rw [hV]; simp
  have HBW := Lib.hid (show Below w.heap.size w W by rw [hW]; exact below_lay hbV _)
  have HX := Lib.hid (show W.heap[X]? = some (.cells #[.bool tu, .int .i64 tk, .int .i64 tn, .slice ta tm tc] 36 (0, 0)) by
    rw [hW, hX, heap_alloc_old _ _ (by omega), hV]
    exact (heap_alloc_old _ _ (by simp)).trans (heap_alloc_new w _))
  have HY := Lib.hid (show W.heap[Y]? = some (.cells #[.int .i64 col, .bool add, .bool vu, .int .i64 vk, .int .i64 vn, .slice sa sm sc] 46 (0, 0)) by
    rw [hW, hY, heap_alloc_old _ _ (by omega), hV]
    exact heap2 w _ _)
  have HU := Lib.hid (show W.heap[U]? = some (.cells #[.bool false, .int .i64 0, .int .i64 0, .slice none 0 0] 36 (0, 0)) by
    rw [hW, hU, show w.heap.size + 1 + 1 = V.heap.size by omega]
    exact heap_alloc_new V _)
  have HNE := Lib.hid (show w.heap.size ≤ X ∧ w.heap.size ≤ U ∧ U ≠ X from ⟨by omega, by omega, by omega⟩)
  have HSM := Lib.hid hsm
  clear hv hbig hsm
  have y1 : W.cell? ⟨Y, 1, none⟩ = some (.bool add) := by rw [cell_of_row W Y 1 _ _ _ HY.out]; rfl
  go_enter Try.func52, Try.ntmps52
  go_upto_region 1 with (fail)
  rw [← hV, ← hW, ← hU, ← hY, ← hX]
  clear hV hW hX hY hU hbV hsV
  cases add with
  | false =>
    have hbt : becT ⟨tu, tk, tn, tb⟩ ⟨vu, vk, vn, vb⟩ false = some ⟨vu, vk, vn, vb⟩ := by unfold becT; rw [if_pos rfl]
    have HBT := Lib.hid hbt
    have y2 : W.cell? ⟨Y, 2, none⟩ = some (.bool vu) := by rw [cell_of_row W Y 2 _ _ _ HY.out]; rfl
    have y3 : W.cell? ⟨Y, 3, none⟩ = some (.int .i64 vk) := by rw [cell_of_row W Y 3 _ _ _ HY.out]; rfl
    have y4 : W.cell? ⟨Y, 4, none⟩ = some (.int .i64 vn) := by rw [cell_of_row W Y 4 _ _ _ HY.out]; rfl
    have y5 : W.cell? ⟨Y, 5, none⟩ = some (.slice sa sm sc) := by rw [cell_of_row W Y 5 _ _ _ HY.out]; rfl
    have HF := Lib.hid (fval_own (⟨vu, vk, vn, vb⟩, .slice sa sm sc) W (HV.out.kept HBW.out) HBG.out)
    unfold aggV at HF
    simp only at HF
    clear hbt hti hvi
    go_wp2_with fail
    refine HF.out.mono ?_
    rintro e W2 ⟨s2, rfl, ho, hb2⟩
    clear y1 y2 y3 y4 y5 HF
    obtain ⟨ra, rc, hs2⟩ := own_shp ho
    have HUS := Lib.hid (show U < W.heap.size from (Array.getElem?_eq_some_iff.1 HU.out).1)
    have HO := Lib.hid ho
    have HB2 := Lib.hid (below_then HBW.out hb2)
    have HU2 := Lib.hid ((hb2.block U HUS.out).trans HU.out)
    subst hs2
    rw [← HSM.out] at HO ⊢
    clear ho hb2
    have u0 : W2.cell? ⟨U, 0, none⟩ = some (.bool false) := by rw [cell_of_row W2 U 0 _ _ _ HU2.out]; rfl
    have u1 : W2.cell? ⟨U, 1, none⟩ = some (.int .i64 0) := by rw [cell_of_row W2 U 1 _ _ _ HU2.out]; rfl
    have u2 : W2.cell? ⟨U, 2, none⟩ = some (.int .i64 0) := by rw [cell_of_row W2 U 2 _ _ _ HU2.out]; rfl
    have u3 : W2.cell? ⟨U, 3, none⟩ = some (.slice none 0 0) := by rw [cell_of_row W2 U 3 _ _ _ HU2.out]; rfl
    have f0 : W2.frozen? ⟨U, 0, none⟩ = false := frozen_of_row W2 U 0 _ _ HU2.out
    have f1 : W2.frozen? ⟨U, 1, none⟩ = false := frozen_of_row W2 U 1 _ _ HU2.out
    have f2 : W2.frozen? ⟨U, 2, none⟩ = false := frozen_of_row W2 U 2 _ _ HU2.out
    have f3 : W2.frozen? ⟨U, 3, none⟩ = false := frozen_of_row W2 U 3 _ _ HU2.out
    go_wp2_with fail
    (try simp only [Exit.inBlock, Exit.then])
    refine bodyPost_ret (results_cell_tmpA rfl _ _ U _ _ (0, 0) _ _ rfl rfl (four_heap HU2.out) Try.underlying36 rfl infoVal4a) rfl ?_
    refine ⟨?_, ((((HB2.out).setCell (p := ⟨U, 0, none⟩) HNE.out.2.1 _).setCell (p := ⟨U, 1, none⟩) HNE.out.2.1 _).setCell (p := ⟨U, 2, none⟩) HNE.out.2.1 _).setCell (p := ⟨U, 3, none⟩) HNE.out.2.1 _⟩
    rw [HBT.out]
    refine ⟨.slice ra sm rc, rfl, .inr ?_⟩
    simp only
    rw [← HSM.out]
    refine own_above (own_above HO.out ?_ (Nat.le_refl _)) (Above.refl _ _) HBW.out.size
    exact above_set (above_set (above_set (above_set (Above.refl _ _) _ _ HUS.out) _ _ HUS.out) _ _ HUS.out) _ _ HUS.out
  | true =>
    have x0 : W.cell? ⟨X, 0, none⟩ = some (.bool tu) := by rw [cell_of_row W X 0 _ _ _ HX.out]; rfl
    have x1 : W.cell? ⟨X, 1, none⟩ = some (.int .i64 tk) := by rw [cell_of_row W X 1 _ _ _ HX.out]; rfl
    have x2 : W.cell? ⟨X, 2, none⟩ = some (.int .i64 tn) := by rw [cell_of_row W X 2 _ _ _ HX.out]; rfl
    have x3 : W.cell? ⟨X, 3, none⟩ = some (.slice ta tm tc) := by rw [cell_of_row W X 3 _ _ _ HX.out]; rfl
    cases tu with
    | true =>
      have hbt : becT ⟨true, tk, tn, tb⟩ ⟨vu, vk, vn, vb⟩ true = some ⟨true, tk, tn, tb⟩ := by unfold becT; rw [if_neg (by simp), if_pos rfl]
      have HBT := Lib.hid hbt
      clear hbt hti hvi
      have u0 : W.cell? ⟨U, 0, none⟩ = some (.bool false) := by rw [cell_of_row W U 0 _ _ _ HU.out]; rfl
      have u1 : W.cell? ⟨U, 1, none⟩ = some (.int .i64 0) := by rw [cell_of_row W U 1 _ _ _ HU.out]; rfl
      have u2 : W.cell? ⟨U, 2, none⟩ = some (.int .i64 0) := by rw [cell_of_row W U 2 _ _ _ HU.out]; rfl
      have u3 : W.cell? ⟨U, 3, none⟩ = some (.slice none 0 0) := by rw [cell_of_row W U 3 _ _ _ HU.out]; rfl
      have f0 : W.frozen? ⟨U, 0, none⟩ = false := frozen_of_row W U 0 _ _ HU.out
      have f1 : W.frozen? ⟨U, 1, none⟩ = false := frozen_of_row W U 1 _ _ HU.out
      have f2 : W.frozen? ⟨U, 2, none⟩ = false := frozen_of_row W U 2 _ _ HU.out
      have f3 : W.frozen? ⟨U, 3, none⟩ = false := frozen_of_row W U 3 _ _ HU.out
      go_wp2_with fail
      (try simp only [Exit.inBlock, Exit.then])
      refine bodyPost_ret (results_cell_tmpA rfl _ _ U _ _ (0, 0) _ _ rfl rfl (four_heap HU.out) Try.underlying36 rfl infoVal4a) rfl ?_
      exact ⟨by rw [HBT.out]; exact ⟨_, rfl, .inl ⟨rfl, rfl⟩⟩, ((((HBW.out).setCell (p := ⟨U, 0, none⟩) HNE.out.2.1 _).setCell (p := ⟨U, 1, none⟩) HNE.out.2.1 _).setCell (p := ⟨U, 2, none⟩) HNE.out.2.1 _).setCell (p := ⟨U, 3, none⟩) HNE.out.2.1 _⟩
    | false =>
      have y4 : W.cell? ⟨Y, 4, none⟩ = some (.int .i64 vn) := by rw [cell_of_row W Y 4 _ _ _ HY.out]; rfl
      have fx : W.frozen? ⟨X, 2, none⟩ = false := frozen_of_row W X 2 _ _ HX.out
      by_cases hr : -9223372036854775808 ≤ tn + vn ∧ tn + vn < 9223372036854775808
      · have hbt : becT ⟨false, tk, tn, tb⟩ ⟨vu, vk, vn, vb⟩ true = some ⟨false, tk, tn + vn, tb⟩ := by unfold becT; rw [if_neg (by simp), if_neg (by simp), if_pos hr]
        have HBT := Lib.hid hbt
        have hv1 : IntKind.i64.wrap (tn + vn) = tn + vn := IntWalk.i64_in _ ⟨hr.1, by omega⟩
        have hv2 : wrap64 (tn + vn) = tn + vn := (IntWalk.i64_left _).symm.trans hv1
        clear hbt
        obtain ⟨N, hN⟩ : ∃ N, N = tn + vn := ⟨_, rfl⟩
        rw [← hN] at HBT
        have hw1 : IntKind.i64.wrap (tn + vn) = N := hv1.trans hN.symm
        have hw2 : wrap64 (tn + vn) = N := hv2.trans hN.symm
        clear hv1 hv2
        rcases (show (tn < N ∧ 0 < vn) ∨ (¬ tn < N ∧ ¬ 0 < vn) by omega) with ⟨hp, hq⟩ | ⟨hp, hq⟩
        · have hp1 : decide (N > tn) = true := by first | (rw [decide_eq_true_eq]; exact hp) | (rw [decide_eq_false_iff_not]; exact hp)
          have hp2 : decide (tn < N) = true := hp1
          have hq1 : decide (vn > 0) = true := by first | (rw [decide_eq_true_eq]; exact hq) | (rw [decide_eq_false_iff_not]; exact hq)
          have hq2 : decide (0 < vn) = true := hq1
          clear hti hvi hr hN
          go_upto_region 9 with (fail)
          clear x0 x1 x2 x3 fx y1 y4 hw1 hw2 hp hq hp1 hp2 hq1 hq2
          obtain ⟨W2, hW2⟩ : ∃ W2 : World, W2 = W.setCell ⟨X, 2, none⟩ (.int .i64 N) := ⟨_, rfl⟩
          have HX2 := Lib.hid (show W2.heap[X]? = some (.cells #[.bool false, .int .i64 tk, .int .i64 N, .slice ta tm tc] 36 (0, 0)) by rw [hW2]; exact heap_setCell_same W X 2 _ _ _ HX.out)
          have HU2 := Lib.hid (show W2.heap[U]? = some (.cells #[.bool false, .int .i64 0, .int .i64 0, .slice none 0 0] 36 (0, 0)) by rw [hW2]; exact (heap_setCell_other W _ U _ (fun h => HNE.out.2.2 (by simpa using h))).trans HU.out)
          have HB2 := Lib.hid (show Below w.heap.size w W2 by rw [hW2]; exact HBW.out.setCell (p := ⟨X, 2, none⟩) HNE.out.1 _)
          rw [← hW2]
          clear hW2
          have x0 : W2.cell? ⟨X, 0, none⟩ = some (.bool false) := by rw [cell_of_row W2 X 0 _ _ _ HX2.out]; rfl
          have x1 : W2.cell? ⟨X, 1, none⟩ = some (.int .i64 tk) := by rw [cell_of_row W2 X 1 _ _ _ HX2.out]; rfl
          have x2 : W2.cell? ⟨X, 2, none⟩ = some (.int .i64 N) := by rw [cell_of_row W2 X 2 _ _ _ HX2.out]; rfl
          have x3 : W2.cell? ⟨X, 3, none⟩ = some (.slice ta tm tc) := by rw [cell_of_row W2 X 3 _ _ _ HX2.out]; rfl
          have u0 : W2.cell? ⟨U, 0, none⟩ = some (.bool false) := by rw [cell_of_row W2 U 0 _ _ _ HU2.out]; rfl
          have u1 : W2.cell? ⟨U, 1, none⟩ = some (.int .i64 0) := by rw [cell_of_row W2 U 1 _ _ _ HU2.out]; rfl
          have u2 : W2.cell? ⟨U, 2, none⟩ = some (.int .i64 0) := by rw [cell_of_row W2 U 2 _ _ _ HU2.out]; rfl
          have u3 : W2.cell? ⟨U, 3, none⟩ = some (.slice none 0 0) := by rw [cell_of_row W2 U 3 _ _ _ HU2.out]; rfl
          have f0 : W2.frozen? ⟨U, 0, none⟩ = false := frozen_of_row W2 U 0 _ _ HU2.out
          have f1 : W2.frozen? ⟨U, 1, none⟩ = false := frozen_of_row W2 U 1 _ _ HU2.out
          have f2 : W2.frozen? ⟨U, 2, none⟩ = false := frozen_of_row W2 U 2 _ _ HU2.out
          have f3 : W2.frozen? ⟨U, 3, none⟩ = false := frozen_of_row W2 U 3 _ _ HU2.out
          go_wp2_with fail
          (try simp only [Exit.inBlock, Exit.then])
          refine bodyPost_ret (results_cell_tmpA rfl _ _ U _ _ (0, 0) _ _ rfl rfl (four_heap HU2.out) Try.underlying36 rfl infoVal4a) rfl ?_
          exact ⟨by rw [HBT.out]; exact ⟨_, rfl, .inl ⟨rfl, rfl⟩⟩, ((((HB2.out).setCell (p := ⟨U, 0, none⟩) HNE.out.2.1 _).setCell (p := ⟨U, 1, none⟩) HNE.out.2.1 _).setCell (p := ⟨U, 2, none⟩) HNE.out.2.1 _).setCell (p := ⟨U, 3, none⟩) HNE.out.2.1 _⟩
        · have hp1 : decide (N > tn) = false := by first | (rw [decide_eq_true_eq]; exact hp) | (rw [decide_eq_false_iff_not]; exact hp)
          have hp2 : decide (tn < N) = false := hp1
          have hq1 : decide (vn > 0) = false := by first | (rw [decide_eq_true_eq]; exact hq) | (rw [decide_eq_false_iff_not]; exact hq)
          have hq2 : decide (0 < vn) = false := hq1
          clear hti hvi hr hN
          go_upto_region 9 with (fail)
          clear x0 x1 x2 x3 fx y1 y4 hw1 hw2 hp hq hp1 hp2 hq1 hq2
          obtain ⟨W2, hW2⟩ : ∃ W2 : World, W2 = W.setCell ⟨X, 2, none⟩ (.int .i64 N) := ⟨_, rfl⟩
          have HX2 := Lib.hid (show W2.heap[X]? = some (.cells #[.bool false, .int .i64 tk, .int .i64 N, .slice ta tm tc] 36 (0, 0)) by rw [hW2]; exact heap_setCell_same W X 2 _ _ _ HX.out)
          have HU2 := Lib.hid (show W2.heap[U]? = some (.cells #[.bool false, .int .i64 0, .int .i64 0, .slice none 0 0] 36 (0, 0)) by rw [hW2]; exact (heap_setCell_other W _ U _ (fun h => HNE.out.2.2 (by simpa using h))).trans HU.out)
          have HB2 := Lib.hid (show Below w.heap.size w W2 by rw [hW2]; exact HBW.out.setCell (p := ⟨X, 2, none⟩) HNE.out.1 _)
          rw [← hW2]
          clear hW2
          have x0 : W2.cell? ⟨X, 0, none⟩ = some (.bool false) := by rw [cell_of_row W2 X 0 _ _ _ HX2.out]; rfl
          have x1 : W2.cell? ⟨X, 1, none⟩ = some (.int .i64 tk) := by rw [cell_of_row W2 X 1 _ _ _ HX2.out]; rfl
          have x2 : W2.cell? ⟨X, 2, none⟩ = some (.int .i64 N) := by rw [cell_of_row W2 X 2 _ _ _ HX2.out]; rfl
          have x3 : W2.cell? ⟨X, 3, none⟩ = some (.slice ta tm tc) := by rw [cell_of_row W2 X 3 _ _ _ HX2.out]; rfl
          have u0 : W2.cell? ⟨U, 0, none⟩ = some (.bool false) := by rw [cell_of_row W2 U 0 _ _ _ HU2.out]; rfl
          have u1 : W2.cell? ⟨U, 1, none⟩ = some (.int .i64 0) := by rw [cell_of_row W2 U 1 _ _ _ HU2.out]; rfl
          have u2 : W2.cell? ⟨U, 2, none⟩ = some (.int .i64 0) := by rw [cell_of_row W2 U 2 _ _ _ HU2.out]; rfl
          have u3 : W2.cell? ⟨U, 3, none⟩ = some (.slice none 0 0) := by rw [cell_of_row W2 U 3 _ _ _ HU2.out]; rfl
          have f0 : W2.frozen? ⟨U, 0, none⟩ = false := frozen_of_row W2 U 0 _ _ HU2.out
          have f1 : W2.frozen? ⟨U, 1, none⟩ = false := frozen_of_row W2 U 1 _ _ HU2.out
          have f2 : W2.frozen? ⟨U, 2, none⟩ = false := frozen_of_row W2 U 2 _ _ HU2.out
          have f3 : W2.frozen? ⟨U, 3, none⟩ = false := frozen_of_row W2 U 3 _ _ HU2.out
          go_wp2_with fail
          (try simp only [Exit.inBlock, Exit.then])
          refine bodyPost_ret (results_cell_tmpA rfl _ _ U _ _ (0, 0) _ _ rfl rfl (four_heap HU2.out) Try.underlying36 rfl infoVal4a) rfl ?_
          exact ⟨by rw [HBT.out]; exact ⟨_, rfl, .inl ⟨rfl, rfl⟩⟩, ((((HB2.out).setCell (p := ⟨U, 0, none⟩) HNE.out.2.1 _).setCell (p := ⟨U, 1, none⟩) HNE.out.2.1 _).setCell (p := ⟨U, 2, none⟩) HNE.out.2.1 _).setCell (p := ⟨U, 3, none⟩) HNE.out.2.1 _⟩
      · have hbt : becT ⟨false, tk, tn, tb⟩ ⟨vu, vk, vn, vb⟩ true = none := by unfold becT; rw [if_neg (by simp), if_neg (by simp), if_neg hr]
        have HBT := Lib.hid hbt
        clear hbt
        obtain ⟨N, hN⟩ : ∃ N, N = IntKind.i64.wrap (tn + vn) := ⟨_, rfl⟩
        have hw1 : IntKind.i64.wrap (tn + vn) = N := hN.symm
        have hw2 : wrap64 (tn + vn) = N := (IntWalk.i64_left _).symm.trans hw1
        have hcase : (¬ tn < N ∧ 0 < vn) ∨ (tn < N ∧ ¬ 0 < vn ∧ vn ≠ 0) := by
          rcases Int.lt_or_le 0 vn with h | h
          · have : N = tn + vn - 18446744073709551616 := by rw [hN]; exact wrap_dn (by omega) (by omega)
            exact .inl ⟨by omega, h⟩
          · have : N = tn + vn + 18446744073709551616 := by rw [hN]; exact wrap_up (by omega) (by omega)
            exact .inr ⟨by omega, by omega, by omega⟩
        have hnz : vn ≠ 0 := by omega
        have hnz1 : decide (vn ≠ 0) = true := by rw [decide_eq_true_eq]; exact hnz
        have hnz2 : (vn == 0) = false := by rw [beq_eq_false_iff_ne]; exact hnz
        rcases (show (¬ tn < N ∧ 0 < vn) ∨ (tn < N ∧ ¬ 0 < vn) from hcase.imp id fun h => ⟨h.1, h.2.1⟩) with ⟨hp, hq⟩ | ⟨hp, hq⟩
        · have hp1 : decide (N > tn) = false := by first | (rw [decide_eq_true_eq]; exact hp) | (rw [decide_eq_false_iff_not]; exact hp)
          have hp2 : decide (tn < N) = false := hp1
          have hq1 : decide (vn > 0) = true := by first | (rw [decide_eq_true_eq]; exact hq) | (rw [decide_eq_false_iff_not]; exact hq)
          have hq2 : decide (0 < vn) = true := hq1
          clear hti hvi hr hN hcase
          have u0 : W.cell? ⟨U, 0, none⟩ = some (.bool false) := by rw [cell_of_row W U 0 _ _ _ HU.out]; rfl
          have u1 : W.cell? ⟨U, 1, none⟩ = some (.int .i64 0) := by rw [cell_of_row W U 1 _ _ _ HU.out]; rfl
          have u2 : W.cell? ⟨U, 2, none⟩ = some (.int .i64 0) := by rw [cell_of_row W U 2 _ _ _ HU.out]; rfl
          have u3 : W.cell? ⟨U, 3, none⟩ = some (.slice none 0 0) := by rw [cell_of_row W U 3 _ _ _ HU.out]; rfl
          have f0 : W.frozen? ⟨U, 0, none⟩ = false := frozen_of_row W U 0 _ _ HU.out
          have f1 : W.frozen? ⟨U, 1, none⟩ = false := frozen_of_row W U 1 _ _ HU.out
          have f2 : W.frozen? ⟨U, 2, none⟩ = false := frozen_of_row W U 2 _ _ HU.out
          have f3 : W.frozen? ⟨U, 3, none⟩ = false := frozen_of_row W U 3 _ _ HU.out
          go_wp2_with fail
          (try simp only [Exit.inBlock, Exit.then])
          refine bodyPost_ret (results_cell_tmpA rfl _ _ U _ _ (0, 0) _ _ rfl rfl (four_heap HU.out) Try.underlying36 rfl infoVal4a) rfl ?_
          exact ⟨by rw [HBT.out]; exact rfl, ((((HBW.out).setCell (p := ⟨U, 0, none⟩) HNE.out.2.1 _).setCell (p := ⟨U, 1, none⟩) HNE.out.2.1 _).setCell (p := ⟨U, 2, none⟩) HNE.out.2.1 _).setCell (p := ⟨U, 3, none⟩) HNE.out.2.1 _⟩
        · have hp1 : decide (N > tn) = true := by first | (rw [decide_eq_true_eq]; exact hp) | (rw [decide_eq_false_iff_not]; exact hp)
          have hp2 : decide (tn < N) = true := hp1
          have hq1 : decide (vn > 0) = false := by first | (rw [decide_eq_true_eq]; exact hq) | (rw [decide_eq_false_iff_not]; exact hq)
          have hq2 : decide (0 < vn) = false := hq1
          clear hti hvi hr hN hcase
          have u0 : W.cell? ⟨U, 0, none⟩ = some (.bool false) := by rw [cell_of_row W U 0 _ _ _ HU.out]; rfl
          have u1 : W.cell? ⟨U, 1, none⟩ = some (.int .i64 0) := by rw [cell_of_row W U 1 _ _ _ HU.out]; rfl
          have u2 : W.cell? ⟨U, 2, none⟩ = some (.int .i64 0) := by rw [cell_of_row W U 2 _ _ _ HU.out]; rfl
          have u3 : W.cell? ⟨U, 3, none⟩ = some (.slice none 0 0) := by rw [cell_of_row W U 3 _ _ _ HU.out]; rfl
          have f0 : W.frozen? ⟨U, 0, none⟩ = false := frozen_of_row W U 0 _ _ HU.out
          have f1 : W.frozen? ⟨U, 1, none⟩ = false := frozen_of_row W U 1 _ _ HU.out
          have f2 : W.frozen? ⟨U, 2, none⟩ = false := frozen_of_row W U 2 _ _ HU.out
          have f3 : W.frozen? ⟨U, 3, none⟩ = false := frozen_of_row W U 3 _ _ HU.out
          go_wp2_with fail
          (try simp only [Exit.inBlock, Exit.then])
          refine bodyPost_ret (results_cell_tmpA rfl _ _ U _ _ (0, 0) _ _ rfl rfl (four_heap HU.out) Try.underlying36 rfl infoVal4a) rfl ?_
          exact ⟨by rw [HBT.out]; exact rfl, ((((HBW.out).setCell (p := ⟨U, 0, none⟩) HNE.out.2.1 _).setCell (p := ⟨U, 1, none⟩) HNE.out.2.1 _).setCell (p := ⟨U, 2, none⟩) HNE.out.2.1 _).setCell (p := ⟨U, 3, none⟩) HNE.out.2.1 _⟩

end Go.Proofs.Ytnfjdoeemnhkbaa

namespace Go.Proofs.Ytnfjdoeemnhkbaa
set_option linter.unusedVariables false
set_option linter.unusedSimpArgs false
open Go.RowKit

def nilV9 : Vc := ⟨true, 0, 0, []⟩
/-- What a row becomes. -/
def setsT : List Vc → List SetP → Option (List Vc)
  | r, [] => some r
  | r, y :: l => if y.col < 0 ∨ (r.length : Int) ≤ y.col then none else match becT (r.getD y.col.toNat nilV9) y.v y.add with
    | none => none
    | some v => setsT (r.set y.col.toNat v) l
theorem setsT_off {r : List Vc} {y : SetP} {l : List SetP} (h : y.col < 0 ∨ (r.length : Int) ≤ y.col) : setsT r (y :: l) = none := by unfold setsT; rw [if_pos h]
theorem setsT_none {r : List Vc} {y : SetP} {l : List SetP} {c : Nat} {t : Vc} (hc : y.col = (c : Int)) (ht : r[c]? = some t) (h : becT t y.v y.add = none) : setsT r (y :: l) = none := by
  unfold setsT
  have hl := (List.getElem?_eq_some_iff.1 ht).1
  rw [if_neg (by omega), hc, Int.toNat_natCast, List.getD_eq_getElem?_getD, ht, Option.getD_some, h]
theorem setsT_some {r : List Vc} {y : SetP} {l : List SetP} {c : Nat} {t v : Vc} (hc : y.col = (c : Int)) (ht : r[c]? = some t) (h : becT t y.v y.add = some v) : setsT r (y :: l) = setsT (r.set c v) l := by
  have hl := (List.getElem?_eq_some_iff.1 ht).1
  rw [show setsT r (y :: l) = if y.col < 0 ∨ (r.length : Int) ≤ y.col then none else match becT (r.getD y.col.toNat nilV9) y.v y.add with
    | none => none
    | some v => setsT (r.set y.col.toNat v) l from rfl, if_neg (by omega), hc, Int.toNat_natCast, List.getD_eq_getElem?_getD, ht, Option.getD_some, h]
theorem becT_small {t v r : Vc} {add : Bool} (h : becT t v add = some r) (ht : I64 t.n ∧ t.b.length ≤ 1000000) (hv : I64 v.n ∧ v.b.length ≤ 1000000) : I64 r.n ∧ r.b.length ≤ 1000000 := by
  unfold becT at h
  split at h
  · cases h; exact hv
  · split at h
    · cases h; exact ht
    · split at h
      · cases h
        unfold I64
        exact ⟨by simp only; omega, ht.2⟩
      · cases h
theorem flat_set4 : ∀ (ls : List (List Value)) (c : Nat) (a0 a1 a2 a3 : Value), (∀ t ∈ ls, t.length = 4) → c < ls.length →
    ((((ls.flatten.set (c * 4) a0).set (c * 4 + 1) a1).set (c * 4 + 2) a2).set (c * 4 + 3) a3) = (ls.set c [a0, a1, a2, a3]).flatten
  | [], c, _, _, _, _, _, h => absurd h (by simp)
  | t :: l, 0, a0, a1, a2, a3, h, _ => by
    have ht := h t List.mem_cons_self
    match t, ht with
    | [b0, b1, b2, b3], _ => rfl
  | t :: l, c + 1, a0, a1, a2, a3, h, hc => by
    have ht := h t List.mem_cons_self
    have ih := flat_set4 l c a0 a1 a2 a3 (fun t ht => h t (List.mem_cons_of_mem _ ht)) (by simpa using hc)
    rw [List.set_cons_succ, List.flatten_cons, List.flatten_cons, ← ih]
    have hset : ∀ (m : List Value) (j : Nat) (u : Value), (t ++ m).set (j + 4) u = t ++ m.set j u := fun m j u => by
      rw [List.set_append_right _ _ (by omega)]
      congr 2
      omega
    rw [show (c + 1) * 4 = c * 4 + 4 by omega, show c * 4 + 4 + 1 = c * 4 + 1 + 4 by omega, show c * 4 + 4 + 2 = c * 4 + 2 + 4 by omega, show c * 4 + 4 + 3 = c * 4 + 3 + 4 by omega, hset, hset, hset, hset]
/-- What became answers, whether it is one or not. -/
def BecR (K : Nat) (t : Vc × Value) (v : Vc) (add : Bool) (z : Vc) (zs : Value) (ok : Bool) (w' : World) : Prop :=
  (ok = false ∧ becT t.1 v add = none) ∨ (ok = true ∧ becT t.1 v add = some z ∧ (zs = t.2 ∧ z.b = t.1.b ∨ w'.ownsRow K 5 1 zs z.b.length (z.b.map u8v)))
theorem became_all (t v : Vc) (ta : Option Addr) (tm tc : Nat) (vs : Value) (col : Int) (add : Bool) (w : World) (hv : OkV w (v, vs)) (hbig : v.b.length ≤ 1000000) (hti : I64 t.n) (hvi : I64 v.n) :
    Calls Try.prog 52 #[.agg #[.bool t.u, .int .i64 t.k, .int .i64 t.n, .slice ta tm tc], .agg #[.int .i64 col, .bool add, .bool v.u, .int .i64 v.k, .int .i64 v.n, vs]] w fun e w' =>
      ∃ (z : Vc) (za : Option Addr) (zm zc : Nat) (ok : Bool), e = .returned (.tuple #[.agg #[.bool z.u, .int .i64 z.k, .int .i64 z.n, .slice za zm zc], .bool ok]) ∧ BecR w.heap.size (t, .slice ta tm tc) v add z (.slice za zm zc) ok w' ∧ Below w.heap.size w w' := by
  refine (became_any t v (.slice ta tm tc) vs col add w ⟨_, _, _, rfl⟩ hv hbig hti hvi).mono ?_
  rintro e w' ⟨h, hb⟩
  cases ho : becT t v add with
  | none =>
    rw [ho] at h
    exact ⟨⟨false, 0, 0, []⟩, none, 0, 0, false, h, .inl ⟨rfl, ho⟩, hb⟩
  | some r =>
    rw [ho] at h
    obtain ⟨s', he, h⟩ := h
    rcases h with ⟨rfl, h2⟩ | h2
    · exact ⟨r, ta, tm, tc, true, he, .inr ⟨rfl, ho, .inl ⟨rfl, h2⟩⟩, hb⟩
    · obtain ⟨za, zc, hz⟩ := own_shp h2
      subst hz
      exact ⟨r, za, _, zc, true, he, .inr ⟨rfl, ho, .inr h2⟩, hb⟩
def RetS (K : Nat) (o : Option (List Vc)) (e : Ending) (w' : World) : Prop := match o with
  | none => e = .returned (.tuple #[.slice none 0 0, .bool false])
  | some r => ∃ (v' : Value) (l' : List (Vc × Value)), e = .returned (.tuple #[v', .bool true]) ∧ RdRA K w' v' l' ∧ l'.map Prod.fst = r ∧ ∀ u ∈ l', I64 u.1.n ∧ u.1.b.length ≤ 1000000
theorem BecR.low {K K0 : Nat} {t : Vc × Value} {v : Vc} {add : Bool} {z : Vc} {zs : Value} {ok : Bool} {w : World} (h : BecR K t v add z zs ok w) (hk : K0 ≤ K) : BecR K0 t v add z zs ok w :=
  h.imp id fun h => ⟨h.1, h.2.1, h.2.2.imp id fun h => own_above h (Above.refl _ _) hk⟩
theorem BecR.above {K : Nat} {t : Vc × Value} {v : Vc} {add : Bool} {z : Vc} {zs : Value} {ok : Bool} {w w' : World} (h : BecR K t v add z zs ok w) (ha : Above K w w') : BecR K t v add z zs ok w' :=
  h.imp id fun h => ⟨h.1, h.2.1, h.2.2.imp id fun h => own_above h ha (Nat.le_refl _)⟩
set_option maxRecDepth 100000 in
set_option maxHeartbeats 8000000 in
theorem set_any (x : El) (l : List SetP) (hl6 : l.length ≤ 1000) (w : World) (hr : RdP w x.1 x.2) (hlen : x.2.length ≤ 1000000) (hsm : ∀ t ∈ x.2, I64 t.1.n ∧ t.1.b.length ≤ 1000000) (sv : Value) (hs : RdS w 6 sv (l.map setC)) (hok : ∀ y ∈ l, OkV w (y.v, y.s) ∧ I64 y.v.n ∧ y.v.b.length ≤ 1000000) :
    Calls Try.prog 17 #[x.1, sv] w fun e w' => RetS w.heap.size (setsT x.row l) e w' ∧ Below w.heap.size w w' := by
  have HF := Lib.hid (frow_any x.2 hlen x.1 w hr fun t ht => (hsm t ht).2)
  obtain ⟨xa, xc, hxs⟩ := rdS_shape hr.1
  obtain ⟨m, hm⟩ : ∃ m, m = x.2.length := ⟨_, rfl⟩
  rw [List.length_map, ← hm] at hxs
  obtain ⟨sa, sc, hsv⟩ := rdS_shape hs
  obtain ⟨ln, hln⟩ : ∃ ln, ln = l.length := ⟨_, rfl⟩
  rw [List.length_map, ← hln] at hsv
  subst hsv
  rw [hxs] at HF ⊢
  have HM := Lib.hid hm
  have HLN := Lib.hid hln
  have HS := Lib.hid hs
  have HK := Lib.hid hok
  have HSM := Lib.hid hsm
  rw [← hm] at hlen
  rw [← hln] at hl6
  clear hr hsm hs hok hxs hm hln
  go_enter Try.func17, Try.ntmps17
  go_wp2_with fail
  refine HF.out.mono ?_
  rintro e w1 ⟨v1, l1, rfl, hlm, hra, hb1⟩
  have hl1 : l1.length = m := by have h := congrArg List.length hlm; rw [List.length_map, List.length_map, ← HM.out] at h; exact h
  obtain ⟨ra, rc, hv1⟩ := own_shape hra.2.2.1
  rw [hl1] at hv1
  subst hv1
  have HB1 := Lib.hid hb1
  have HRA := Lib.hid hra
  have HL1 := Lib.hid hl1
  have HRW := Lib.hid (show x.row = l1.map Prod.fst from hlm.symm)
  have HBL := Lib.hid (show ∀ u ∈ l1, I64 u.1.n ∧ u.1.b.length ≤ 1000000 from fun u hu => by
    have h : u.1 ∈ l1.map Prod.fst := List.mem_map_of_mem hu
    rw [hlm] at h
    obtain ⟨y, hy, he⟩ := List.mem_map.1 h
    rw [← he]
    exact HSM.out y hy)
  clear hlm hra hb1 hl1
  go_wp2_with fail
  go_loopw [14] (fun i wr => ∃ (q : Nat) (l2 : List (Vc × Value)), q ≤ ln ∧ i = .int .i64 (q : Int) ∧ RdRA w.heap.size wr (.slice ra m rc) l2 ∧ l2.length = m ∧ (∀ u ∈ l2, I64 u.1.n ∧ u.1.b.length ≤ 1000000) ∧ setsT x.row l = setsT (l2.map Prod.fst) (l.drop q) ∧ Below w.heap.size w wr) (fun i _ => ln - (intOf i).toNat)
  case atStart => exact ⟨0, l1, Nat.zero_le _, rfl, HRA.out, HL1.out, HBL.out, by rw [HRW.out]; rfl, HB1.out⟩
  case round =>
    obtain ⟨q, l2, hq, rfl, hra, hl2, hbl, heq, hb⟩ := hrel
    have HRr := Lib.hid hra
    have HL2 := Lib.hid hl2
    have HBL2 := Lib.hid hbl
    have HEQ := Lib.hid heq
    have HBr := Lib.hid hb
    clear hra hl2 hbl heq hb
    by_cases hlt : q < ln
    · obtain ⟨y, hy⟩ : ∃ y, l[q]? = some y := ⟨_, List.getElem?_eq_getElem (by rw [← HLN.out]; exact hlt)⟩
      have hdrop : l.drop q = y :: l.drop (q + 1) := by
        rw [List.drop_eq_getElem_cons (by rw [← HLN.out]; exact hlt)]
        congr 1
        have h := List.getElem?_eq_getElem (l := l) (show q < l.length by rw [← HLN.out]; exact hlt)
        rw [hy] at h
        exact (Option.some.inj h).symm
      rw [hdrop] at HEQ
      obtain ⟨hyok, hyi, hyb⟩ := HK.out y (List.mem_of_getElem? hy)
      obtain ⟨ysa, ysc, hys⟩ := rd_shape8 hyok.1
      obtain ⟨ysm, hysm⟩ : ∃ ysm, ysm = y.v.b.length := ⟨_, rfl⟩
      simp only at hys
      rw [← hysm] at hys
      obtain ⟨sb, so, hsa, hcell⟩ := (HS.out.kept HBr.out).at (k := q) (t := setC y) (by rw [List.getElem?_map, hy]; rfl)
      subst hsa
      obtain ⟨yc, ya, yv, ys⟩ := y
      simp only at hys hyok hyi hyb hysm HEQ hdrop
      subst hys
      have HYO := Lib.hid hyok
      have HYI := Lib.hid hyi
      have HYB := Lib.hid hyb
      have h0 : wr.cell? ⟨sb, so + q * 6, none⟩ = some (.int .i64 yc) := hcell 0 _ rfl
      have h1 : wr.cell? ⟨sb, so + q * 6 + 1, none⟩ = some (.bool ya) := hcell 1 _ rfl
      have h2 : wr.cell? ⟨sb, so + q * 6 + 2, none⟩ = some (.bool yv.u) := hcell 2 _ rfl
      have h3 : wr.cell? ⟨sb, so + q * 6 + 3, none⟩ = some (.int .i64 yv.k) := hcell 3 _ rfl
      have h4 : wr.cell? ⟨sb, so + q * 6 + 4, none⟩ = some (.int .i64 yv.n) := hcell 4 _ rfl
      have h5 : wr.cell? ⟨sb, so + q * 6 + 5, none⟩ = some (.slice ysa ysm ysc) := hcell 5 _ rfl
      have hlti : (q : Int) < (ln : Int) := by omega
      have hq00 : (0 : Int) ≤ (q : Int) := by omega
      have hq1 : IntKind.i64.wrap ((q : Int) + 1) = (q : Int) + 1 := IntWalk.i64_in _ (by omega)
      clear hdrop hyok hyi hyb hcell hy hysm
      obtain ⟨W3, hW3⟩ : ∃ W3 : World, W3 = wr.alloc (.cells #[.int .i64 yc, .bool ya, .bool yv.u, .int .i64 yv.k, .int .i64 yv.n, .slice ysa ysm ysc] 46) := ⟨_, rfl⟩
      obtain ⟨P, hP⟩ : ∃ P, P = wr.heap.size := ⟨_, rfl⟩
      have hp : W3.heap[P]? = some (.cells #[.int .i64 yc, .bool ya, .bool yv.u, .int .i64 yv.k, .int .i64 yv.n, .slice ysa ysm ysc] 46 (0, 0)) := by rw [hW3, hP]; exact heap_alloc_new wr _
      have HPH := Lib.hid hp
      have hb3 : Below wr.heap.size wr W3 := by rw [hW3]; exact below_alloc wr _
      have HB3 := Lib.hid (below_then HBr.out hb3)
      have HR3 := Lib.hid (HRr.out.above (above_below hb3) (Nat.le_refl _))
      have HY3 := Lib.hid (HYO.out.kept HB3.out)
      clear hp hb3
      go_upto_region 5 with (fail)
      rw [← hW3, ← hP]
      clear hW3 hP h0 h1 h2 h3 h4 h5
      have p0 : W3.cell? ⟨P, 0, none⟩ = some (.int .i64 yc) := by rw [cell_of_row W3 P 0 _ _ _ HPH.out]; rfl
      by_cases hc0 : yc < 0
      · have hc1 : decide (yc < 0) = true := by rw [decide_eq_true_eq]; exact hc0
        have HSO := Lib.hid (setsT_off (r := l2.map Prod.fst) (y := ⟨yc, ya, yv, .slice ysa ysm ysc⟩) (l := l.drop (q + 1)) (.inl hc0))
        go_wp2_with fail
        go_ret2
        rw [HEQ.out, HSO.out]
        exact ⟨rfl, HB3.out⟩
      · have hc1 : decide (yc < 0) = false := by rw [decide_eq_false_iff_not]; exact hc0
        by_cases hcm : yc < (m : Int)
        · obtain ⟨c, hcc⟩ : ∃ c : Nat, yc = (c : Int) := ⟨yc.toNat, by omega⟩
          subst hcc
          have hcn : c < m := by omega
          have hd1 : ¬ (m : Int) ≤ (c : Int) := by omega
          have hd2 : decide ((c : Int) ≥ (m : Int)) = false := by rw [decide_eq_false_iff_not]; omega
          have hd3 : decide ((m : Int) ≤ (c : Int)) = false := hd2
          have hc00 : (0 : Int) ≤ (c : Int) := by omega
          have p1 : W3.cell? ⟨P, 1, none⟩ = some (.bool ya) := by rw [cell_of_row W3 P 1 _ _ _ HPH.out]; rfl
          have p2 : W3.cell? ⟨P, 2, none⟩ = some (.bool yv.u) := by rw [cell_of_row W3 P 2 _ _ _ HPH.out]; rfl
          have p3 : W3.cell? ⟨P, 3, none⟩ = some (.int .i64 yv.k) := by rw [cell_of_row W3 P 3 _ _ _ HPH.out]; rfl
          have p4 : W3.cell? ⟨P, 4, none⟩ = some (.int .i64 yv.n) := by rw [cell_of_row W3 P 4 _ _ _ HPH.out]; rfl
          have p5 : W3.cell? ⟨P, 5, none⟩ = some (.slice ysa ysm ysc) := by rw [cell_of_row W3 P 5 _ _ _ HPH.out]; rfl
          obtain ⟨tt, htt⟩ : ∃ tt, l2[c]? = some tt := ⟨_, List.getElem?_eq_getElem (by rw [HL2.out]; exact hcn)⟩
          have ho3 : W3.ownsRow w.heap.size 36 4 (.slice ra m rc) m (l2.map cellsV).flatten := by have h := HR3.out.2.2.1; rw [HL2.out] at h; exact h
          obtain ⟨R, hR⟩ := own_isAtA ho3 (by omega)
          subst hR
          have htmem := List.mem_of_getElem? htt
          obtain ⟨ta, tc, hts⟩ := own_shape (HR3.out.2.2.2 _ htmem)
          obtain ⟨tm, htm⟩ : ∃ tm, tm = tt.1.b.length := ⟨_, rfl⟩
          rw [← htm] at hts
          obtain ⟨t, ts⟩ := tt
          simp only at hts htm
          subst hts
          have hcv : (l2.map cellsV)[c]? = some (cellsV (t, .slice ta tm tc)) := by rw [List.getElem?_map, htt]; rfl
          have hl4 : ∀ u ∈ l2.map cellsV, u.length = 4 := fun u hu => by obtain ⟨y, _, rfl⟩ := List.mem_map.1 hu; rfl
          have r0 : W3.cell? ⟨R, c * 4, none⟩ = some (.bool t.u) := (ho3.cellAt (c * 4) (by omega)).trans (flatten_at _ 4 hl4 c _ 0 _ hcv rfl)
          have r1 : W3.cell? ⟨R, c * 4 + 1, none⟩ = some (.int .i64 t.k) := (ho3.cellAt (c * 4 + 1) (by omega)).trans (flatten_at _ 4 hl4 c _ 1 _ hcv rfl)
          have r2 : W3.cell? ⟨R, c * 4 + 2, none⟩ = some (.int .i64 t.n) := (ho3.cellAt (c * 4 + 2) (by omega)).trans (flatten_at _ 4 hl4 c _ 2 _ hcv rfl)
          have r3 : W3.cell? ⟨R, c * 4 + 3, none⟩ = some (.slice ta tm tc) := (ho3.cellAt (c * 4 + 3) (by omega)).trans (flatten_at _ 4 hl4 c _ 3 _ hcv rfl)
          have HO3 := Lib.hid ho3
          have HTT := Lib.hid htt
          have HTM := Lib.hid htm
          have hti := HBL2.out _ htmem
          have HTI := Lib.hid hti
          have HBEC := Lib.hid (show ∀ w', Below W3.heap.size W3 w' → _ from fun w' h => became_all t yv ta tm tc (.slice ysa ysm ysc) (c : Int) ya w' (HY3.out.kept h) HYB.out hti.1 HYI.out)
          clear hcv hl4 htm ho3 htt hti htmem hc0 hcm
          go_upto_region 7 with (fail)
          clear hd1 hd2 hd3 hc1
          go_cut [8, 9] (fun p o wx => ∃ (Q : Nat) (z : Vc) (za : Option Addr) (zm zc : Nat) (ok : Bool), p = .pointer (some ⟨Q, 0, none⟩) ∧ o = .bool ok ∧ wx.heap[Q]? = some (.cells #[.bool z.u, .int .i64 z.k, .int .i64 z.n, .slice za zm zc] 36 (0, 0)) ∧ W3.heap.size ≤ Q ∧ BecR W3.heap.size (t, .slice ta tm tc) yv ya z (.slice za zm zc) ok wx ∧ Below W3.heap.size W3 wx)
          case first =>
            have HCX := Lib.hid (show ∀ w', Below W3.heap.size W3 w' → ((w'.cell? ⟨P, 0, none⟩ = some (.int .i64 (c : Int)) ∧ w'.cell? ⟨P, 1, none⟩ = some (.bool ya) ∧ w'.cell? ⟨P, 2, none⟩ = some (.bool yv.u) ∧ w'.cell? ⟨P, 3, none⟩ = some (.int .i64 yv.k) ∧ w'.cell? ⟨P, 4, none⟩ = some (.int .i64 yv.n) ∧ w'.cell? ⟨P, 5, none⟩ = some (.slice ysa ysm ysc) ∧ w'.cell? ⟨R, c * 4, none⟩ = some (.bool t.u) ∧ w'.cell? ⟨R, c * 4 + 1, none⟩ = some (.int .i64 t.k) ∧ w'.cell? ⟨R, c * 4 + 2, none⟩ = some (.int .i64 t.n) ∧ w'.cell? ⟨R, c * 4 + 3, none⟩ = some (.slice ta tm tc)) ∧ Below W3.heap.size W3 w') from fun w' h => ⟨⟨(h.cell (World.block_lt_of_cell? _ _ p0)).trans p0, (h.cell (World.block_lt_of_cell? _ _ p1)).trans p1, (h.cell (World.block_lt_of_cell? _ _ p2)).trans p2, (h.cell (World.block_lt_of_cell? _ _ p3)).trans p3, (h.cell (World.block_lt_of_cell? _ _ p4)).trans p4, (h.cell (World.block_lt_of_cell? _ _ p5)).trans p5, (h.cell (World.block_lt_of_cell? _ _ r0)).trans r0, (h.cell (World.block_lt_of_cell? _ _ r1)).trans r1, (h.cell (World.block_lt_of_cell? _ _ r2)).trans r2, (h.cell (World.block_lt_of_cell? _ _ r3)).trans r3⟩, h⟩)
            set_option maxRecDepth 1000000 in
              refine wp_region_noPanic ?_
              refine wp_region_held_drew (S := fun w' => (w'.cell? ⟨P, 0, none⟩ = some (.int .i64 (c : Int)) ∧ w'.cell? ⟨P, 1, none⟩ = some (.bool ya) ∧ w'.cell? ⟨P, 2, none⟩ = some (.bool yv.u) ∧ w'.cell? ⟨P, 3, none⟩ = some (.int .i64 yv.k) ∧ w'.cell? ⟨P, 4, none⟩ = some (.int .i64 yv.n) ∧ w'.cell? ⟨P, 5, none⟩ = some (.slice ysa ysm ysc) ∧ w'.cell? ⟨R, c * 4, none⟩ = some (.bool t.u) ∧ w'.cell? ⟨R, c * 4 + 1, none⟩ = some (.int .i64 t.k) ∧ w'.cell? ⟨R, c * 4 + 2, none⟩ = some (.int .i64 t.n) ∧ w'.cell? ⟨R, c * 4 + 3, none⟩ = some (.slice ta tm tc)) ∧ Below W3.heap.size W3 w') (by kernel_rfl) ?hS0 (fun hHeld => ?go0)
              case' hS0 => ((try dsimp only); exact HCX.out _ (below_drw _ _))
              refine tkH 0 (v := ?v0) rfl (.inl ⟨by rfl, ?y0⟩) ?_
              case' y0 => (intro w hSw; first | (go_simp; done) | (go_simp; with_reducible rfl))
              (try simp only [Act.put, List.getElem_toArray, List.getElem_cons_succ, List.getElem_cons_zero, List.setIfInBounds_toArray, List.set_cons_zero, List.set_cons_succ])
              refine tkH 1 (v := ?v1) rfl (.inl ⟨by rfl, ?y1⟩) ?_
              case' y1 => (intro w hSw; first | (go_simp; done) | (go_simp; with_reducible rfl))
              (try simp only [Act.put, List.getElem_toArray, List.getElem_cons_succ, List.getElem_cons_zero, List.setIfInBounds_toArray, List.set_cons_zero, List.set_cons_succ])
              refine tkH 2 (v := ?v2) rfl (.inl ⟨by rfl, ?y2⟩) ?_
              case' y2 => (intro w hSw; first | (go_simp; done) | (go_simp; with_reducible rfl))
              (try simp only [Act.put, List.getElem_toArray, List.getElem_cons_succ, List.getElem_cons_zero, List.setIfInBounds_toArray, List.set_cons_zero, List.set_cons_succ])
              refine tkH 3 (v := ?v3) rfl (.inl ⟨by rfl, ?y3⟩) ?_
              case' y3 => (intro w hSw; first | (go_simp; done) | (go_simp; with_reducible rfl))
              (try simp only [Act.put, List.getElem_toArray, List.getElem_cons_succ, List.getElem_cons_zero, List.setIfInBounds_toArray, List.set_cons_zero, List.set_cons_succ])
              refine tkH 4 (v := ?v4) rfl (.inl ⟨by rfl, ?y4⟩) ?_
              case' y4 => (intro w hSw; first | (go_simp; done) | (go_simp; with_reducible rfl))
              (try simp only [Act.put, List.getElem_toArray, List.getElem_cons_succ, List.getElem_cons_zero, List.setIfInBounds_toArray, List.set_cons_zero, List.set_cons_succ])
              refine tkH 5 (v := ?v5) rfl (.inl ⟨by rfl, ?y5⟩) ?_
              case' y5 => (intro w hSw; first | (go_simp; done) | (go_simp; with_reducible rfl))
              (try simp only [Act.put, List.getElem_toArray, List.getElem_cons_succ, List.getElem_cons_zero, List.setIfInBounds_toArray, List.set_cons_zero, List.set_cons_succ])
              refine wpAnyH_ready (rs := [6, 10]) (by kernel_rfl) (by simp) ?_
              refine AllReadyH.cons (o := _) rfl (fun K6a hK6a => ?_) (AllReadyH.cons (o := _) rfl (fun K10a hK10a => ?_) AllReadyH.nil)
              · go_simp
                (go_at_call 52; refine (HBEC.out _ (hHeld.2)).mono ?_; rintro e w2 ⟨z, za, zm, zc, ok, rfl, hbr, hb2⟩; have hbc : Below W3.heap.size W3 w2 := below_then (hHeld.2) hb2; have HBR := Lib.hid (hbr.low (show W3.heap.size ≤ _ from (hHeld.2).size)); clear hbr)
                refine hK6a.out _ _ ?hS6a (fun hHeld6a => ?_)
                case' hS6a => ((try dsimp only); exact HCX.out _ hbc)
                clear hK6a K6a
                (try simp only [Act.put, List.getElem_toArray, List.getElem_cons_succ, List.getElem_cons_zero, List.setIfInBounds_toArray, List.set_cons_zero, List.set_cons_succ])
                refine tkH 7 (v := ?v7a) rfl (.inl ⟨by rfl, ?y7a⟩) ?_
                case' y7a => (intro w hSw; first | (go_simp; done) | (go_simp; with_reducible rfl))
                (try simp only [Act.put, List.getElem_toArray, List.getElem_cons_succ, List.getElem_cons_zero, List.setIfInBounds_toArray, List.set_cons_zero, List.set_cons_succ])
                refine tkH 8 (v := ?v8a) rfl (.inl ⟨by rfl, ?y8a⟩) ?_
                case' y8a => (intro w hSw; first | (go_simp; done) | (go_simp; with_reducible rfl))
                (try simp only [Act.put, List.getElem_toArray, List.getElem_cons_succ, List.getElem_cons_zero, List.setIfInBounds_toArray, List.set_cons_zero, List.set_cons_succ])
                refine tkH 9 (v := ?v9a) rfl (.inl ⟨by rfl, ?y9a⟩) ?_
                case' y9a => (intro w hSw; first | (go_simp; done) | (go_simp; with_reducible rfl))
                (try simp only [Act.put, List.getElem_toArray, List.getElem_cons_succ, List.getElem_cons_zero, List.setIfInBounds_toArray, List.set_cons_zero, List.set_cons_succ])
                refine wpAnyH_ready (rs := [10]) (by kernel_rfl) (by simp) ?_
                refine AllReadyH.cons (o := _) rfl (fun K10b hK10b => ?_) AllReadyH.nil
                go_simp
                refine hK10b.out _ _ ?hS10b (fun hHeld10b => ?_)
                case' hS10b => ((try dsimp only); exact HCX.out _ (below_lay hbc _))
                clear hK10b K10b
                (try simp only [Act.put, List.getElem_toArray, List.getElem_cons_succ, List.getElem_cons_zero, List.setIfInBounds_toArray, List.set_cons_zero, List.set_cons_succ])
                refine wpAnyH_ready (rs := [11]) (by kernel_rfl) (by simp) ?_
                refine AllReadyH.cons (o := _) rfl (fun K11c hK11c => ?_) AllReadyH.nil
                go_simp
                refine hK11c.out _ _ ?hS11c (fun hHeld11c => ?_)
                case' hS11c => ((try dsimp only); exact HCX.out _ (below_lay hbc _))
                clear hK11c K11c
                (try simp only [Act.put, List.getElem_toArray, List.getElem_cons_succ, List.getElem_cons_zero, List.setIfInBounds_toArray, List.set_cons_zero, List.set_cons_succ])
                refine tkH 12 (v := ?v12c) rfl (.inl ⟨by rfl, ?y12c⟩) ?_
                case' y12c => (intro w hSw; first | (go_simp; done) | (go_simp; with_reducible rfl))
                (try simp only [Act.put, List.getElem_toArray, List.getElem_cons_succ, List.getElem_cons_zero, List.setIfInBounds_toArray, List.set_cons_zero, List.set_cons_succ])
                refine wpAnyH_done (by kernel_rfl) ?_ _
                refine NoPanic.normal ?_
                go_wp2_with fail
                go_meet
                exact ⟨_, z, za, zm, zc, ok, rfl, rfl, heap_alloc_new w2 _, hbc.size, HBR.out.above (above_below (below_alloc w2 _)), below_lay hbc _⟩
              · go_simp
                refine hK10a.out _ _ ?hS10a (fun hHeld10a => ?_)
                case' hS10a => ((try dsimp only); exact HCX.out _ (below_lay hHeld.2 _))
                clear hK10a K10a
                (try simp only [Act.put, List.getElem_toArray, List.getElem_cons_succ, List.getElem_cons_zero, List.setIfInBounds_toArray, List.set_cons_zero, List.set_cons_succ])
                refine wpAnyH_ready (rs := [6]) (by kernel_rfl) (by simp) ?_
                refine AllReadyH.cons (o := _) rfl (fun K6b hK6b => ?_) AllReadyH.nil
                go_simp
                (go_at_call 52; refine (HBEC.out _ (hHeld10a.2)).mono ?_; rintro e w2 ⟨z, za, zm, zc, ok, rfl, hbr, hb2⟩; have hbc : Below W3.heap.size W3 w2 := below_then (hHeld10a.2) hb2; have HBR := Lib.hid hbr; clear hbr; have g8 : w2.heap[W3.heap.size]? = some (.cells #[.bool false, .int .i64 0, .int .i64 0, .slice none 0 0] 36 (0, 0)) := (hb2.block W3.heap.size (by simp)).trans (heap_alloc_new W3.drew _); have g80 : w2.cell? ⟨W3.heap.size, 0, none⟩ = some (.bool false) := (by rw [cell_of_row w2 W3.heap.size 0 _ _ _ g8]; rfl); have f80 : w2.frozen? ⟨W3.heap.size, 0, none⟩ = false := frozen_of_row w2 W3.heap.size 0 _ _ g8; have g81 : w2.cell? ⟨W3.heap.size, 1, none⟩ = some (.int .i64 0) := (by rw [cell_of_row w2 W3.heap.size 1 _ _ _ g8]; rfl); have f81 : w2.frozen? ⟨W3.heap.size, 1, none⟩ = false := frozen_of_row w2 W3.heap.size 1 _ _ g8; have g82 : w2.cell? ⟨W3.heap.size, 2, none⟩ = some (.int .i64 0) := (by rw [cell_of_row w2 W3.heap.size 2 _ _ _ g8]; rfl); have f82 : w2.frozen? ⟨W3.heap.size, 2, none⟩ = false := frozen_of_row w2 W3.heap.size 2 _ _ g8; have g83 : w2.cell? ⟨W3.heap.size, 3, none⟩ = some (.slice none 0 0) := (by rw [cell_of_row w2 W3.heap.size 3 _ _ _ g8]; rfl); have f83 : w2.frozen? ⟨W3.heap.size, 3, none⟩ = false := frozen_of_row w2 W3.heap.size 3 _ _ g8)
                refine hK6b.out _ _ ?hS6b (fun hHeld6b => ?_)
                case' hS6b => ((try dsimp only); exact HCX.out _ hbc)
                clear hK6b K6b
                (try simp only [Act.put, List.getElem_toArray, List.getElem_cons_succ, List.getElem_cons_zero, List.setIfInBounds_toArray, List.set_cons_zero, List.set_cons_succ])
                refine tkH 7 (v := ?v7b) rfl (.inl ⟨by rfl, ?y7b⟩) ?_
                case' y7b => (intro w hSw; first | (go_simp; done) | (go_simp; with_reducible rfl))
                (try simp only [Act.put, List.getElem_toArray, List.getElem_cons_succ, List.getElem_cons_zero, List.setIfInBounds_toArray, List.set_cons_zero, List.set_cons_succ])
                refine tkH 8 (v := ?v8b) rfl (.inl ⟨by rfl, ?y8b⟩) ?_
                case' y8b => (intro w hSw; first | (go_simp; done) | (go_simp; with_reducible rfl))
                (try simp only [Act.put, List.getElem_toArray, List.getElem_cons_succ, List.getElem_cons_zero, List.setIfInBounds_toArray, List.set_cons_zero, List.set_cons_succ])
                refine tkH 9 (v := ?v9b) rfl (.inl ⟨by rfl, ?y9b⟩) ?_
                case' y9b => (intro w hSw; first | (go_simp; done) | (go_simp; with_reducible rfl))
                (try simp only [Act.put, List.getElem_toArray, List.getElem_cons_succ, List.getElem_cons_zero, List.setIfInBounds_toArray, List.set_cons_zero, List.set_cons_succ])
                refine wpAnyH_ready (rs := [11]) (by kernel_rfl) (by simp) ?_
                refine AllReadyH.cons (o := _) rfl (fun K11d hK11d => ?_) AllReadyH.nil
                go_simp
                refine hK11d.out _ _ ?hS11d (fun hHeld11d => ?_)
                case' hS11d => ((try dsimp only); exact HCX.out _ ((((hbc.setCell (p := ⟨W3.heap.size, 0, none⟩) (Nat.le_refl _) _).setCell (p := ⟨W3.heap.size, 1, none⟩) (Nat.le_refl _) _).setCell (p := ⟨W3.heap.size, 2, none⟩) (Nat.le_refl _) _).setCell (p := ⟨W3.heap.size, 3, none⟩) (Nat.le_refl _) _))
                clear hK11d K11d
                (try simp only [Act.put, List.getElem_toArray, List.getElem_cons_succ, List.getElem_cons_zero, List.setIfInBounds_toArray, List.set_cons_zero, List.set_cons_succ])
                refine tkH 12 (v := ?v12d) rfl (.inl ⟨by rfl, ?y12d⟩) ?_
                case' y12d => (intro w hSw; first | (go_simp; done) | (go_simp; with_reducible rfl))
                (try simp only [Act.put, List.getElem_toArray, List.getElem_cons_succ, List.getElem_cons_zero, List.setIfInBounds_toArray, List.set_cons_zero, List.set_cons_succ])
                refine wpAnyH_done (by kernel_rfl) ?_ _
                refine NoPanic.normal ?_
                go_wp2_with fail
                go_meet
                exact ⟨_, z, za, zm, zc, ok, rfl, rfl, four_heap g8, Nat.le_refl _, (HBR.out.above (above_set (above_set (above_set (above_set (Above.refl _ w2) _ _ (show W3.heap.size < (W3.drew.alloc (.cells #[.bool false, .int .i64 0, .int .i64 0, .slice none 0 0] 36)).heap.size by simp)) _ _ (show W3.heap.size < (W3.drew.alloc (.cells #[.bool false, .int .i64 0, .int .i64 0, .slice none 0 0] 36)).heap.size by simp)) _ _ (show W3.heap.size < (W3.drew.alloc (.cells #[.bool false, .int .i64 0, .int .i64 0, .slice none 0 0] 36)).heap.size by simp)) _ _ (show W3.heap.size < (W3.drew.alloc (.cells #[.bool false, .int .i64 0, .int .i64 0, .slice none 0 0] 36)).heap.size by simp))).low (show W3.heap.size ≤ (W3.drew.alloc (.cells #[.bool false, .int .i64 0, .int .i64 0, .slice none 0 0] 36)).heap.size by simp), (((hbc.setCell (p := ⟨W3.heap.size, 0, none⟩) (Nat.le_refl _) _).setCell (p := ⟨W3.heap.size, 1, none⟩) (Nat.le_refl _) _).setCell (p := ⟨W3.heap.size, 2, none⟩) (Nat.le_refl _) _).setCell (p := ⟨W3.heap.size, 3, none⟩) (Nat.le_refl _) _⟩
          case rest =>
            obtain ⟨Q, z, za, zm, zc, ok, rfl, rfl, hQ, hQs, hbr, hbx⟩ := hcut
            have HBX := Lib.hid (below_then HB3.out hbx)
            have HBP := Lib.hid (show Above W3.heap.size W3 wc from above_below hbx)
            have HQ := Lib.hid hQ
            have HQS := Lib.hid hQs
            have HBR := Lib.hid hbr
            have HO4 := Lib.hid (own_above HO3.out (above_below hbx) (Nat.le_refl _))
            have HPW := Lib.hid ((hbx.block P (Array.getElem?_eq_some_iff.1 HPH.out).1).trans HPH.out)
            have HLT := Lib.hid (show R < W3.heap.size from (HO3.out.lt R rfl).2)
            have HRW3 := Lib.hid (show RdRA w.heap.size wc (.slice (some ⟨R, 0, none⟩) m rc) l2 from HR3.out.above (above_below hbx) (Nat.le_refl _))
            clear hQ hQs hbr hbx p0 p1 p2 p3 p4 p5 r0 r1 r2 r3
            cases ok with
            | false =>
              have hno := HBR.out
              have HSO := Lib.hid (setsT_none (r := l2.map Prod.fst) (y := ⟨(c : Int), ya, yv, .slice ysa ysm ysc⟩) (l := l.drop (q + 1)) (t := t) rfl (by rw [List.getElem?_map, HTT.out]; rfl) (by rcases hno with ⟨_, h⟩ | ⟨h, _⟩; exact h; cases h))
              clear hno
              go_wp2_with fail
              go_ret2
              rw [HEQ.out, HSO.out]
              exact ⟨rfl, HBX.out⟩
            | true =>
              have hyes := HBR.out
              obtain ⟨hbec, hown⟩ : becT t yv ya = some z ∧ (Value.slice za zm zc = .slice ta tm tc ∧ z.b = t.b ∨ wc.ownsRow W3.heap.size 5 1 (.slice za zm zc) z.b.length (z.b.map u8v)) := by rcases hyes with ⟨h, _⟩ | ⟨_, h⟩; cases h; exact h
              have HSO := Lib.hid (setsT_some (r := l2.map Prod.fst) (y := ⟨(c : Int), ya, yv, .slice ysa ysm ysc⟩) (l := l.drop (q + 1)) (t := t) rfl (by rw [List.getElem?_map, HTT.out]; rfl) hbec)
              have HSZ := Lib.hid (becT_small hbec HTI.out ⟨HYI.out, HYB.out⟩)
              have HZO := Lib.hid (show wc.ownsRow w.heap.size 5 1 (.slice za zm zc) z.b.length (z.b.map u8v) ∧ ∀ x ∈ z.b, x < 256 from by
                have htmem := List.mem_of_getElem? HTT.out
                have h1 := HRW3.out.2.2.2 _ htmem
                have h2 := (HRW3.out.2.1 _ htmem).2
                rcases hown with ⟨ha, hb⟩ | ha
                · rw [ha, hb]; exact ⟨h1, h2⟩
                · refine ⟨own_above ha (Above.refl _ _) HB3.out.size, fun x hx => ?_⟩
                  unfold becT at hbec
                  split at hbec
                  · cases hbec; exact HYO.out.2 x hx
                  · split at hbec
                    · cases hbec; exact h2 x hx
                    · split at hbec
                      · cases hbec; exact h2 x hx
                      · cases hbec)
              clear hyes hbec hown
              have p0 : wc.cell? ⟨P, 0, none⟩ = some (.int .i64 (c : Int)) := by rw [cell_of_row wc P 0 _ _ _ HPW.out]; rfl
              have q0 : wc.cell? ⟨Q, 0, none⟩ = some (.bool z.u) := by rw [cell_of_row wc Q 0 _ _ _ HQ.out]; rfl
              have q1 : wc.cell? ⟨Q, 1, none⟩ = some (.int .i64 z.k) := by rw [cell_of_row wc Q 1 _ _ _ HQ.out]; rfl
              have q2 : wc.cell? ⟨Q, 2, none⟩ = some (.int .i64 z.n) := by rw [cell_of_row wc Q 2 _ _ _ HQ.out]; rfl
              have q3 : wc.cell? ⟨Q, 3, none⟩ = some (.slice za zm zc) := by rw [cell_of_row wc Q 3 _ _ _ HQ.out]; rfl
              have hl4 : ∀ u ∈ l2.map cellsV, u.length = 4 := fun u hu => by obtain ⟨y, _, rfl⟩ := List.mem_map.1 hu; rfl
              have hcv : (l2.map cellsV)[c]? = some (cellsV (t, .slice ta tm tc)) := by rw [List.getElem?_map, HTT.out]; rfl
              have r0 : wc.cell? ⟨R, c * 4, none⟩ = some (.bool t.u) := (HO4.out.cellAt (c * 4) (by omega)).trans (flatten_at _ 4 hl4 c _ 0 _ hcv rfl)
              have r1 : wc.cell? ⟨R, c * 4 + 1, none⟩ = some (.int .i64 t.k) := (HO4.out.cellAt (c * 4 + 1) (by omega)).trans (flatten_at _ 4 hl4 c _ 1 _ hcv rfl)
              have r2 : wc.cell? ⟨R, c * 4 + 2, none⟩ = some (.int .i64 t.n) := (HO4.out.cellAt (c * 4 + 2) (by omega)).trans (flatten_at _ 4 hl4 c _ 2 _ hcv rfl)
              have r3 : wc.cell? ⟨R, c * 4 + 3, none⟩ = some (.slice ta tm tc) := (HO4.out.cellAt (c * 4 + 3) (by omega)).trans (flatten_at _ 4 hl4 c _ 3 _ hcv rfl)
              have f0 := HO4.out.frozenAt (c * 4)
              have f1 := HO4.out.frozenAt (c * 4 + 1)
              have f2 := HO4.out.frozenAt (c * 4 + 2)
              have f3 := HO4.out.frozenAt (c * 4 + 3)
              have HST := Lib.hid (show RdRA w.heap.size ((((wc.setCell ⟨R, c * 4, none⟩ (.bool z.u)).setCell ⟨R, c * 4 + 1, none⟩ (.int .i64 z.k)).setCell ⟨R, c * 4 + 2, none⟩ (.int .i64 z.n)).setCell ⟨R, c * 4 + 3, none⟩ (.slice za zm zc)) (.slice (some ⟨R, 0, none⟩) m rc) (l2.set c (z, .slice za zm zc)) from by
                have ho := ((((HO4.out.stored (c * 4) (.bool z.u)).1.stored (c * 4 + 1) (.int .i64 z.k)).1.stored (c * 4 + 2) (.int .i64 z.n)).1.stored (c * 4 + 3) (.slice za zm zc)).1
                rw [flat_set4 _ c _ _ _ _ hl4 (by rw [List.length_map, HL2.out]; exact hcn)] at ho
                have hag : Agree (fun b => b = R) wc ((((wc.setCell ⟨R, c * 4, none⟩ (.bool z.u)).setCell ⟨R, c * 4 + 1, none⟩ (.int .i64 z.k)).setCell ⟨R, c * 4 + 2, none⟩ (.int .i64 z.n)).setCell ⟨R, c * 4 + 3, none⟩ (.slice za zm zc)) := (((agree_set (fun b => b = R) wc ⟨R, c * 4, none⟩ _ rfl).trans (agree_set (fun b => b = R) _ ⟨R, c * 4 + 1, none⟩ _ rfl)).trans (agree_set (fun b => b = R) _ ⟨R, c * 4 + 2, none⟩ _ rfl)).trans (agree_set (fun b => b = R) _ ⟨R, c * 4 + 3, none⟩ _ rfl)
                refine rdRA_of ?_ fun u hu => ?_
                · rw [List.map_set, List.length_set, HL2.out]; exact ho
                · rcases List.mem_or_eq_of_mem_set hu with hu | hu
                  · have h1 := HRW3.out.2.2.2 u hu
                    exact ⟨ownsRow_agree h1 hag fun b hb e => own_two HO4.out h1 (by decide) rfl (by rw [hb, e]), (HRW3.out.2.1 u hu).2⟩
                  · rw [hu]
                    exact ⟨ownsRow_agree HZO.out.1 hag fun b hb e => own_two HO4.out HZO.out.1 (by decide) rfl (by rw [hb, e]), HZO.out.2⟩)
              have HBZ := Lib.hid (show Below w.heap.size w ((((wc.setCell ⟨R, c * 4, none⟩ (.bool z.u)).setCell ⟨R, c * 4 + 1, none⟩ (.int .i64 z.k)).setCell ⟨R, c * 4 + 2, none⟩ (.int .i64 z.n)).setCell ⟨R, c * 4 + 3, none⟩ (.slice za zm zc)) from by
                have hR := (HO4.out.lt R rfl).1
                exact (((HBX.out.setCell (p := ⟨R, c * 4, none⟩) hR _).setCell (p := ⟨R, c * 4 + 1, none⟩) hR _).setCell (p := ⟨R, c * 4 + 2, none⟩) hR _).setCell (p := ⟨R, c * 4 + 3, none⟩) hR _)
              clear hl4 hcv
              go_wp2_with fail
              go_roundw
              case rel =>
                refine ⟨q + 1, l2.set c (z, .slice za zm zc), by omega, by go_num, HST.out, by rw [List.length_set]; exact HL2.out, fun u hu => ?_, by rw [HEQ.out, HSO.out, List.map_set], HBZ.out⟩
                rcases List.mem_or_eq_of_mem_set hu with hu | hu
                · exact HBL2.out u hu
                · rw [hu]; exact HSZ.out
              case measure => simp [intOf]; omega
        · have hd1 : (m : Int) ≤ yc := by omega
          have hd2 : decide (yc ≥ (m : Int)) = true := by rw [decide_eq_true_eq]; omega
          have hd3 : decide ((m : Int) ≤ yc) = true := hd2
          have HSO := Lib.hid (setsT_off (r := l2.map Prod.fst) (y := ⟨yc, ya, yv, .slice ysa ysm ysc⟩) (l := l.drop (q + 1)) (.inr (by rw [List.length_map, HL2.out]; exact hd1)))
          go_wp2_with fail
          go_ret2
          rw [HEQ.out, HSO.out]
          exact ⟨rfl, HB3.out⟩
    · have hlti : ¬ (q : Int) < (ln : Int) := by omega
      have hdr : l.drop q = [] := List.drop_eq_nil_of_le (by rw [← HLN.out]; omega)
      rw [hdr] at HEQ
      clear hdr
      go_wp2_with fail
      go_ret2
      rw [HEQ.out]
      exact ⟨⟨_, l2, rfl, HRr.out, rfl, HBL2.out⟩, HBr.out⟩

end Go.Proofs.Ytnfjdoeemnhkbaa

namespace Go.Proofs.Ytnfjdoeemnhkbaa
set_option linter.unusedVariables false
set_option linter.unusedSimpArgs false
open Go.RowKit

/-- A slice of rows, one's own; its rows stay whatever becomes of its block, and of all below B. -/
def OwnX (B : Nat) (w : World) (v : Value) (E : List El) : Prop :=
  w.ownsRow B 33 1 v E.length (E.map Prod.fst) ∧ ∀ x ∈ E, ∀ w' : World, (∀ b, B ≤ b → b < w.heap.size → v.ownBlock ≠ some b → w'.heap[b]? = w.heap[b]?) → RdP w' x.1 x.2
theorem OwnX.low {B K : Nat} {w : World} {v : Value} {E : List El} (h : OwnX B w v E) (hk : K ≤ B) : OwnX K w v E :=
  ⟨own_above h.1 (Above.refl _ _) hk, fun x hx w' h2 => h.2 x hx w' fun b h3 => h2 b (Nat.le_trans hk h3)⟩
theorem OwnX.row {B : Nat} {w : World} {v : Value} {E : List El} (h : OwnX B w v E) : Rd w v (E.map Prod.fst) ∧ ∀ x ∈ E, RdP w x.1 x.2 := ⟨Rd.of_owns h.1, fun x hx => h.2 x hx w fun _ _ _ _ => rfl⟩
theorem ownX_push {B : Nat} {wr w3 w4 : World} {o3 : Obj} {v v4 s : Value} {E : List El} {l : List (Vc × Value)}
    (hown : wr.ownsRow B 33 1 v E.length (E.map Prod.fst)) (hel : ∀ x ∈ E, ∀ w' : World, (∀ b, B ≤ b → b < wr.heap.size → v.ownBlock ≠ some b → w'.heap[b]? = wr.heap[b]?) → RdP w' x.1 x.2) (hB : B ≤ wr.heap.size)
    (hag : Below wr.heap.size wr w3) (hs : ∀ w', Above wr.heap.size w3 w' → RdP w' s l)
    (hg : (w3.alloc o3).grownBy w4 v.ownBlock) (hnew : ∀ g, v4.ownBlock = some g → v.ownBlock = some g ∨ g = (w3.alloc o3).heap.size)
    (h4 : w4.ownsRow B 33 1 v4 (E.length + 1) (E.map Prod.fst ++ [s])) : OwnX B w4 v4 (E ++ [(s, l)]) := by
  have hsz : (w3.alloc o3).heap.size = w3.heap.size + 1 := by simp
  have hag4 : Agree (fun b => v.ownBlock = some b) wr w4 := ((Agree.refl _ wr).thenBelow hag).alloc o3 |>.thenGrown hg fun i _ h => h
  have hold : ∀ b, v.ownBlock = some b → b < wr.heap.size := fun b hb => (hown.lt b hb).2
  have h34 : Agree (fun b => v.ownBlock = some b) w3 w4 := (agree_alloc _ w3 o3).thenGrown hg fun i _ h => h
  refine ⟨by rw [List.length_append, List.map_append]; exact h4, fun x hx w' ha => ?_⟩
  rcases List.mem_append.1 hx with hx | hx
  · refine hel x hx w' fun b h1 h2 h3 => (ha b h1 (Nat.lt_of_lt_of_le h2 hag4.size) fun e => ?_).trans (hag4.block b h2 h3)
    rcases hnew b e with h | h
    · exact h3 h
    · have := hag.size; omega
  · rw [List.mem_singleton.1 hx]
    refine hs w' fun b h1 h2 => (ha b (by omega) (Nat.lt_of_lt_of_le h2 h34.size) fun e => ?_).trans (h34.block b h2 fun e => by have := hold b e; omega)
    rcases hnew b e with h | h
    · have := hold b h; omega
    · omega

set_option maxRecDepth 100000 in
set_option maxHeartbeats 8000000 in
theorem rows9x_any (cols : List Co) (hok : ColsOk cols) (l : List Int) (sv : Value) (oa : Option Addr) (ln oc : Nat) (hln : ln = l.length) (w : World) (hv : RdC w sv cols) (hr : Rd w (.slice oa ln oc) (l.map (Value.int .i64))) :
    Calls Try.prog 10 #[.agg #[sv], .slice oa ln oc] w fun e w' => ∃ (v : Value) (L : List El), e = .returned v ∧ L.map El.row = rows9 cols l ∧ OwnX w.heap.size w' v L ∧ Below w.heap.size w w' := by
  obtain ⟨sa, sc, rfl⟩ := rdC_shape hv
  obtain ⟨n, hN⟩ : ∃ n, n = cols.length := ⟨_, rfl⟩
  rw [← hN] at hv ⊢
  have HN := Lib.hid hN
  have HV := Lib.hid hv
  have HR := Lib.hid hr
  have HLN := Lib.hid hln
  have HOK := Lib.hid hok
  have hn0 : 0 < n := by rw [hN]; exact hok.ne
  have hn0i : (0 : Int) < (n : Int) := by omega
  have b1 : ∀ x, bits .and .i64 x 1 = x % 2 := fun x => and_low x 1 (by decide) 1 rfl
  clear hN hv hr hln hok
  go_enter Try.func10, Try.ntmps10
  go_upto_region 1 with (fail)
  obtain ⟨W, hW⟩ : ∃ W : World, W = w.alloc (.cells #[.slice sa n sc] 25) := ⟨_, rfl⟩
  rw [← hW]
  have HX0 := Lib.hid (show W.heap[w.heap.size]? = some (.cells #[.slice sa n sc] 25 (0, 0)) by rw [hW]; exact heap_alloc_new w _)
  have HB0 := Lib.hid (show Below w.heap.size w W by rw [hW]; exact below_alloc w _)
  obtain ⟨SB, hSB⟩ : ∃ SB, SB = w.heap.size := ⟨_, rfl⟩
  rw [← hSB] at HX0 ⊢
  clear hW hSB
  go_wp2_with fail
  go_loopw [5, 6] (fun o i wr => ∃ (q : Nat) (ao : Option Addr) (cap : Nat) (L : List El), q ≤ 40 ∧ q ≤ ln ∧ i = .int .i64 (q : Int) ∧ o = .slice ao q cap ∧ L.length = q ∧ L.map El.row = (rows9 cols l).take q ∧ OwnX W.heap.size wr (.slice ao q cap) L ∧ Below W.heap.size W wr) (fun _ i _ => 40 - (intOf i).toNat)
  case atStart => exact ⟨0, none, 0, [], by omega, Nat.zero_le _, rfl, rfl, rfl, by simp, ⟨World.ownsRow_nil .., fun x hx => by cases hx⟩, Below.refl _ _⟩
  case round =>
    obtain ⟨q, ao, cap, L, hq, hql, rfl, rfl, hll, hlm, hown, hb⟩ := hrel
    have HLL := Lib.hid hll
    have HLM := Lib.hid hlm
    have HO := Lib.hid hown
    have HB := Lib.hid hb
    have HXr := Lib.hid ((hb.block SB (Array.getElem?_eq_some_iff.1 HX0.out).1).trans HX0.out)
    have HBw := Lib.hid (below_then HB0.out hb)
    clear hll hlm hown hb
    by_cases hlt : q < ln ∧ q < 40
    · obtain ⟨hlt1, hlt2⟩ := hlt
      have hd1 : decide ((q : Int) < (ln : Int)) = true := by rw [decide_eq_true_eq]; omega
      have hd1n : decide (q < ln) = true := by rw [decide_eq_true_eq]; omega
      have hd1i : (q : Int) < (ln : Int) := by omega
      have hd2 : decide ((q : Int) < 40) = true := by rw [decide_eq_true_eq]; omega
      have hl0 : (0 : Int) ≤ (q : Int) := by omega
      obtain ⟨b, off, rfl, hcells⟩ := (rdz_cells (HR.out.kept HBw.out)).2 (by omega)
      have hcn := hcells q hlt1
      obtain ⟨rn, hrn⟩ : ∃ rn, rn = l.getD q 0 := ⟨_, rfl⟩
      rw [← hrn] at hcn
      have HRN := Lib.hid (show l[q]? = some rn by rw [hrn, List.getD_eq_getElem?_getD, List.getElem?_eq_getElem (by rw [← HLN.out]; exact hlt1)]; rfl)
      have hcs : wr.cell? ⟨SB, 0, none⟩ = some (.slice sa n sc) := by rw [cell_of_row wr SB 0 _ _ _ HXr.out]; rfl
      have HROW := Lib.hid fun W (h : Below wr.heap.size wr W) => row_own (.slice sa n sc) cols HOK.out.ne rn W (RdC.kept (RdC.kept HV.out HBw.out) h) HOK.out.le
      rw [← HN.out] at HROW
      clear hcells hrn
      go_upto_region 5 with (fail)
      go_region_law (go_simp; go_at_call 19; refine (HROW.out _ ?_).mono ?_; (exact below_drw _ _); rintro e w2 ⟨rg, rc, rl, rfl, hrl, hrown, hrv, hb2⟩; have HRL := Lib.hid hrl; have HRO := Lib.hid hrown; have HRV := Lib.hid hrv; have HB2R := Lib.hid (show Below wr.heap.size wr w2 from (below_drw _ wr).trans hb2); have hcn2 : w2.cell? ⟨b, off + q, none⟩ = some (.int .i64 rn) := (HB2R.out.cell (World.block_lt_of_cell? _ _ hcn)).trans hcn; have hrc2 : ∃ u, w2.cell? ⟨rg, 2, none⟩ = some u := ⟨_, (hrown.cellAt 2 (by omega)).trans (List.getElem?_eq_getElem (by have := hrown.1; omega))⟩; obtain ⟨ru, hrc3⟩ := hrc2; have hrf := hrown.frozenAt 2; clear hrl hrown hrv hb2)
      all_goals
        go_upto_region 7 with (fail)
        obtain ⟨ho1, ho3⟩ := HO.out
        obtain ⟨t0, rr, hl0c⟩ : ∃ t0 rr, rl = t0 :: rr := by
          have hrl := HRL.out
          match rl, hrl with
          | [], h => exact absurd (congrArg List.length h) (by rw [rowOf_len, ← HN.out]; simp; omega)
          | t :: r, _ => exact ⟨t, r, rfl⟩
        obtain ⟨w3, hw3⟩ : ∃ w3, w3 = w2.setCell ⟨rg, 2, none⟩ (.int .i64 ((q : Int) * 3 + rn % 2)) := ⟨_, rfl⟩
        rw [← hw3]
        have hrg : wr.heap.size ≤ rg := (HRO.out.lt rg rfl).1
        have HB3 := Lib.hid (show Below wr.heap.size wr w3 by rw [hw3]; exact HB2R.out.setCell (p := ⟨rg, 2, none⟩) hrg _)
        have HRP := Lib.hid (show ∀ w', Above wr.heap.size w3 w' → RdP w' (.slice (some ⟨rg, 0, none⟩) n rc) ((⟨t0.1.u, t0.1.k, (q : Int) * 3 + rn % 2, t0.1.b⟩, t0.2) :: rr) from fun w' ha => by
          have hst := (HRO.out.stored 2 (.int .i64 ((q : Int) * 3 + rn % 2))).1
          rw [hl0c, flat_set2, ← hw3] at hst
          have hlen : n = ((⟨t0.1.u, t0.1.k, (q : Int) * 3 + rn % 2, t0.1.b⟩, t0.2) :: rr : List (Vc × Value)).length := by
            have := congrArg List.length HRL.out
            rw [hl0c, List.length_map, rowOf_len] at this
            rw [HN.out, ← this]
            rfl
          refine ⟨((rdSK_own hst (by rw [List.length_map]; exact hlen) (fun t ht => by obtain ⟨x, _, rfl⟩ := List.mem_map.1 ht; rfl)).above ha (Nat.le_refl _)).rd, fun t ht => ?_⟩
          have hv : ∀ t ∈ t0 :: rr, RdB wr.heap.size w3 t.2 t.1.b ∧ ∀ x ∈ t.1.b, x < 256 := fun t ht => by
            obtain ⟨h1, h2, h3⟩ := HRV.out t (hl0c ▸ ht)
            rw [hw3]
            exact ⟨rdB_set h1 h3, h2⟩
          rcases List.mem_cons.1 ht with rfl | h
          · obtain ⟨h1, h2⟩ := hv t0 List.mem_cons_self
            exact ⟨(h1.above ha (Nat.le_refl _)).rd (Above.refl _ _), h2⟩
          · obtain ⟨h1, h2⟩ := hv t (List.mem_cons_of_mem _ h)
            exact ⟨(h1.above ha (Nat.le_refl _)).rd (Above.refl _ _), h2⟩)
        have HPL := Lib.hid (show L.map El.row ++ [((⟨t0.1.u, t0.1.k, (q : Int) * 3 + rn % 2, t0.1.b⟩, t0.2) :: rr : List (Vc × Value)).map Prod.fst] = (rows9 cols l).take (q + 1) by
          rw [HLM.out, List.take_add_one]
          unfold rows9
          rw [List.getElem?_mapIdx, List.getElem?_take_of_lt hlt2, HRN.out]
          have h1 := HRL.out
          rw [hl0c, List.map_cons] at h1
          obtain ⟨c, hc, hk⟩ := rowOf_k HOK.out rn (i := 0) (x := t0.1) (by rw [← h1]; rfl)
          have he := rowOf_at cols rn 0
          rw [hc, ← h1] at he
          simp only [List.getElem?_cons_zero, Option.map_some, Option.some.injEq] at he
          have hu : t0.1 = ⟨false, 1, rn % 16, []⟩ := by rw [he]; rfl
          simp only [Option.map_some, Option.toList_some]
          rw [← h1, List.set_cons_zero, List.map_cons, hu])
        obtain ⟨L2, hL2⟩ : ∃ L2, L2 = ((⟨t0.1.u, t0.1.k, (q : Int) * 3 + rn % 2, t0.1.b⟩, t0.2) :: rr : List (Vc × Value)) := ⟨_, rfl⟩
        rw [← hL2] at HRP HPL
        have HOWN := Lib.hid ((ownsRow_agree (X := fun _ => False) ho1 ⟨HB3.out.os, HB3.out.tape, HB3.out.output, HB3.out.size, fun i hi _ => HB3.out.block i hi⟩ (fun _ _ h => h)).alloc (.cells #[.slice (some ⟨rg, 0, none⟩) n rc] 33))
        rw [HLL.out] at HOWN
        have HO1 := Lib.hid ho1
        have HO3 := Lib.hid ho3
        have HRD := Lib.hid (rdS_lit w3 #[.slice (some ⟨rg, 0, none⟩) n rc] 33 1 rfl)
        have HON := Lib.hid (show Ones 1 [[Value.slice (some ⟨rg, 0, none⟩) n rc]] from fun t ht => by rw [List.mem_singleton.1 ht]; exact ⟨rfl, fun u hu => by rw [List.mem_singleton.1 hu]; rfl⟩)
        have HSZ := Lib.hid (show W.heap.size ≤ (w3.alloc (.cells #[.slice (some ⟨rg, 0, none⟩) n rc] 33)).heap.size by have := HB.out.size; have := HB3.out.size; simp; omega)
        clear ho1 ho3 hw3 hrg hl0c hL2 hcn2 hrc3 hrf
        go_wp2_with (at_builtin; go_must (refine wpList_append_k elmRows rfl _ _ rfl W.heap.size _ _ _ rfl HOWN.out _ [[.slice (some ⟨rg, 0, none⟩) n rc]] rfl HRD.out HON.out (by simp; omega) HSZ.out (q + 1) rfl ?_); intro ao4 cap4 w4 hown4 hgrow4 hnew4; have HO4 := Lib.hid hown4; have HG4 := Lib.hid hgrow4; have HN4 := Lib.hid hnew4; clear hown4 hgrow4 hnew4)
        go_roundw
        case rel =>
          refine ⟨q + 1, ao4, cap4, L ++ [(.slice (some ⟨rg, 0, none⟩) n rc, L2)], by omega, by omega, by go_num, rfl, by rw [List.length_append, HLL.out]; rfl, by rw [List.map_append]; exact HPL.out, ?_, ?_⟩
          · exact ownX_push HO1.out HO3.out HB.out.size HB3.out HRP.out HG4.out HN4.out (by rw [HLL.out]; exact HO4.out)
          · exact (below_then HB.out HB3.out).alloc (Nat.le_trans HB.out.size HB3.out.size) _ |>.grown HG4.out HSZ.out (own_base HOWN.out)
        case measure => simp [intOf]; omega
    · have hd : (decide ((q : Int) < (ln : Int)) = false ∧ decide (q < ln) = false) ∨ (decide ((q : Int) < (ln : Int)) = true ∧ decide (q < ln) = true ∧ decide ((q : Int) < 40) = false ∧ decide (q < 40) = false) := by
        by_cases h : q < ln
        · have h2 : ¬ q < 40 := fun h2 => hlt ⟨h, h2⟩
          exact .inr ⟨by rw [decide_eq_true_eq]; omega, by rw [decide_eq_true_eq]; omega, by rw [decide_eq_false_iff_not]; omega, by rw [decide_eq_false_iff_not]; omega⟩
        · exact .inl ⟨by rw [decide_eq_false_iff_not]; omega, by rw [decide_eq_false_iff_not]; omega⟩
      have HF := Lib.hid (show L.map El.row = rows9 cols l by
        rw [HLM.out, List.take_of_length_le]
        unfold rows9
        rw [List.length_mapIdx, List.length_take, ← HLN.out]
        by_cases h : q < ln
        · have h2 : ¬ q < 40 := fun h2 => hlt ⟨h, h2⟩
          omega
        · omega)
      clear hlt
      rcases hd with ⟨hd1, hd2⟩ | ⟨hd1, hd2, hd3, hd4⟩
      all_goals
        go_wp2_with fail
        go_ret
        exact ⟨_, L, rfl, HF.out, HO.out.low HB0.out.size, HBw.out⟩

end Go.Proofs.Ytnfjdoeemnhkbaa

namespace Go.Proofs.Ytnfjdoeemnhkbaa
set_option linter.unusedVariables false
set_option linter.unusedSimpArgs false
open Go.RowKit Sy

theorem mem_set2 {α : Type} {l : List α} {i k : Nat} {x y z : α} (hx : l[i]? = some x) (hy : l[k]? = some y) (h : z ∈ (l.set i y).set k x) : z ∈ l := by
  rcases List.mem_or_eq_of_mem_set h with h | rfl
  · rcases List.mem_or_eq_of_mem_set h with h | rfl
    · exact h
    · exact List.mem_of_getElem? hy
  · exact List.mem_of_getElem? hx
/-- Two slices of rows, one's own, unlike; their rows stay whatever becomes of the two. -/
structure TwoX (K : Nat) (w : World) (r s : Value) (E F : List El) : Prop where
  o1 : w.ownsRow K 33 1 r E.length (E.map Prod.fst)
  o2 : w.ownsRow K 33 1 s F.length (F.map Prod.fst)
  ne : ∀ b, r.ownBlock = some b → s.ownBlock ≠ some b
  el : ∀ x, x ∈ E ∨ x ∈ F → ∀ w' : World, (∀ b, b < w.heap.size → r.ownBlock ≠ some b → s.ownBlock ≠ some b → w'.heap[b]? = w.heap[b]?) → RdP w' x.1 x.2
theorem TwoX.symm {K : Nat} {w : World} {r s : Value} {E F : List El} (h : TwoX K w r s E F) : TwoX K w s r F E :=
  ⟨h.o2, h.o1, fun b h1 h2 => h.ne b h2 h1, fun x hx w' hw => h.el x hx.symm w' fun b h1 h2 h3 => hw b h1 h3 h2⟩
theorem TwoX.of {K K1 K2 : Nat} {w1 w2 : World} {r s : Value} {E F : List El} (h1 : OwnX K1 w1 r E) (h2 : OwnX K2 w2 s F) (hb : Below w1.heap.size w1 w2) (hk : K ≤ K1) (hk1 : K1 ≤ w1.heap.size) (hk2 : w1.heap.size ≤ K2) : TwoX K w2 r s E F := by
  have hr : ∀ b, r.ownBlock = some b → b < w1.heap.size := fun b e => (h1.1.lt b e).2
  have hs : ∀ b, s.ownBlock = some b → w1.heap.size ≤ b := fun b e => Nat.le_trans hk2 (h2.1.lt b e).1
  refine ⟨own_above (own_above h1.1 (above_below hb) (Nat.le_refl _)) (Above.refl _ _) hk, own_above h2.1 (Above.refl _ _) (by omega), fun b e1 e2 => by have := hr b e1; have := hs b e2; omega, fun x hx w' hw => ?_⟩
  rcases hx with hx | hx
  · refine h1.2 x hx w' fun b _ h4 h5 => (hw b (Nat.lt_of_lt_of_le h4 hb.size) h5 fun e => by have := hs b e; omega).trans (hb.block b h4)
  · refine h2.2 x hx w' fun b h3 h4 h5 => hw b h4 (fun e => by have := hr b e; omega) h5
theorem TwoX.kept {K : Nat} {w w' : World} {r s : Value} {E F : List El} (h : TwoX K w r s E F) (hb : Below w.heap.size w w') : TwoX K w' r s E F :=
  ⟨own_above h.o1 (above_below hb) (Nat.le_refl _), own_above h.o2 (above_below hb) (Nat.le_refl _), h.ne, fun x hx w2 h2 => h.el x hx w2 fun b h3 h4 h5 => (h2 b (Nat.lt_of_lt_of_le h3 hb.size) h4 h5).trans (hb.block b h3)⟩
theorem TwoX.swap {K g n cap i k : Nat} {w : World} {s : Value} {E F : List El} {x y : El} (h : TwoX K w (.slice (some ⟨g, 0, none⟩) n cap) s E F) (hx : E[i]? = some x) (hy : E[k]? = some y) :
    TwoX K ((w.setCell ⟨g, i, none⟩ y.1).setCell ⟨g, k, none⟩ x.1) (.slice (some ⟨g, 0, none⟩) n cap) s ((E.set i y).set k x) F := by
  have hag : Agree (fun b => b = g) w ((w.setCell ⟨g, i, none⟩ y.1).setCell ⟨g, k, none⟩ x.1) := (agree_set (fun b => b = g) w ⟨g, i, none⟩ _ rfl).trans (agree_set (fun b => b = g) _ ⟨g, k, none⟩ _ rfl)
  refine ⟨?_, ownsRow_agree h.o2 hag fun b hb e => h.ne g rfl (by rw [← e]; exact hb), h.ne, fun z hz w' hw => h.el z (hz.imp (mem_set2 hx hy) id) w' fun b h1 h2 h3 => (hw b (Nat.lt_of_lt_of_le h1 hag.size) h2 h3).trans (hag.block b h1 fun e => h2 (by rw [e]; rfl))⟩
  have hn : n = E.length := by obtain ⟨ao, c, e⟩ := own_shape h.o1; cases e; rfl
  have ho := h.o1
  rw [← hn] at ho
  rw [List.map_set, List.map_set, List.length_set, List.length_set, ← hn]
  exact ((ho.stored i y.1).1.stored k x.1).1
theorem TwoX.rowsX {cols : List Co} {l : List Int} {K : Nat} {w : World} {r s : Value} {E F : List El} (h : TwoX K w r s E F) (hm : ∀ x ∈ E, x.row ∈ rows9 cols l) (hl : E.length ≤ 40) : RowsX cols l w r E :=
  ⟨hm, hl, Rd.of_owns h.o1, fun x hx => h.el x (.inl hx) w fun _ _ _ _ => rfl⟩
theorem TwoX.below {K g n cap i k : Nat} {w0 w : World} {s : Value} {E F : List El} {x y : El} (h : TwoX K w (.slice (some ⟨g, 0, none⟩) n cap) s E F) (hb : Below K w0 w) : Below K w0 ((w.setCell ⟨g, i, none⟩ y.1).setCell ⟨g, k, none⟩ x.1) := by
  have hK := (h.o1.lt g rfl).1
  exact (hb.setCell (p := ⟨g, i, none⟩) hK _).setCell (p := ⟨g, k, none⟩) hK _
/-- How long things are that may be turned. -/
def SmallD (T : List El) : Prop := T.length ≤ 1000000 ∧ ∀ x ∈ T, x.2.length ≤ 1000000 ∧ ∀ t ∈ x.2, t.1.b.length ≤ 1000000
theorem smallD_of {T : List El} {R : List (List Vc)} (h : (T.map El.row).Perm R) (hl : R.length ≤ 1000000) (hr : ∀ r ∈ R, r.length ≤ 1000000 ∧ ∀ v ∈ r, v.b.length ≤ 1000000) : SmallD T := by
  refine ⟨by have := h.length_eq; rw [List.length_map] at this; omega, fun x hx => ?_⟩
  obtain ⟨h1, h2⟩ := hr x.row (h.mem_iff.1 (List.mem_map_of_mem hx))
  unfold El.row at h1 h2
  rw [List.length_map] at h1
  exact ⟨h1, fun t ht => h2 t.1 (List.mem_map_of_mem ht)⟩
theorem atT_small {r : List Vc} {c : Int} {n : Nat} (h : ∀ v ∈ r, v.b.length ≤ n) : (atT r c).b.length ≤ n := by
  unfold atT
  split
  · simp
  · rw [List.getD_eq_getElem?_getD]
    cases hg : r[c.toNat]? with
    | none => simp
    | some v => exact h v (List.mem_of_getElem? hg)
theorem extT_small {c s : Int} {n : Nat} (R : List (List Vc)) (h : ∀ r ∈ R, ∀ v ∈ r, v.b.length ≤ n) : (extT R c s).b.length ≤ n := by
  unfold extT
  have key : ∀ (R : List (List Vc)) (b : Vc), (∀ r ∈ R, ∀ v ∈ r, v.b.length ≤ n) → b.b.length ≤ n → (R.foldl (fun b r => extStep s b (atT r c)) b).b.length ≤ n := by
    intro R
    induction R with
    | nil => exact fun b _ h => h
    | cons r R ih =>
      intro b h hb
      refine ih _ (fun r hr => h r (List.mem_cons_of_mem _ hr)) ?_
      have h1 := atT_small (c := c) (h r List.mem_cons_self)
      show (extStep s b (atT r c)).b.length ≤ n
      unfold extStep
      split
      · split <;> exact hb
      · split
        · exact h1
        · exact hb
  exact key R _ h (by simp)
set_option maxHeartbeats 4000000 in
/-- The groups of the first column, with the greatest of another. -/
theorem grpM_any {cols : List Co} (hok : ColsOk cols) (l : List Int) (E : List El) (c : Int) (v av : Value) (w : World) (hE : RowsX cols l w v E) (hav : RdS w 2 av [[.int .i64 4, .int .i64 c]]) :
    Calls Try.prog 11 #[v, .int .i64 0, av] w fun e w' => ∃ (v' : Value) (T : List El), e = .returned (.tuple #[v', .bool true]) ∧ OwnD w.heap.size w' v' T ∧ SmallD T ∧ Below w.heap.size w w' := by
  have hle := hE.le
  have hin := hE.rowsIn hok
  have hne := hok.ne
  refine (groups_any (PartQ 0 E) [(4, c)] (fun a ha => ?_) (by simp) E 0 v av w hin (fun Ps hP => ?_) hav ?_ ?_).mono ?_
  · rw [List.mem_singleton.1 ha]
    exact totOK_max c
  · obtain ⟨h1, h2, _⟩ := hP.sub hle
    exact ⟨fun p hp => ⟨(h1 p hp).1, by have := (h1 p hp).2.1; omega, (h1 p hp).2.2⟩, by omega⟩
  · obtain ⟨ao, cap, h, _⟩ := hE.rd
    exact ⟨ao, _, cap, h⟩
  · obtain ⟨kk, hkk, hnk⟩ := row9_atA hok 0 (Int.le_refl _) (by omega)
    refine (parts_any kk E 0 (Int.le_refl _) (by omega) v w hE.rd (fun x hx => ⟨hE.el x hx, (hin x hx).2.1⟩) (fun x hx => hnk l _ (hE.mem x hx))).mono ?_
    rintro e w' ⟨v', rfl, B, hB, Ps, ho, hp, hq, hb⟩
    exact ⟨v', rfl, Ps, ho.rd, ⟨fun _ => ⟨hp, hq⟩, fun h => by omega⟩, hb⟩
  · rintro e w' ⟨Ps, hP, hb, h⟩
    obtain ⟨hs1, hs2, _⟩ := hP.sub hle
    rcases h with ⟨v', rfl, T, hT, hTl, hTr⟩ | ⟨_, p, hpm, a, ha, hn⟩
    · refine ⟨v', T, rfl, hT, ⟨by omega, fun x hx => ?_⟩, hb⟩
      obtain ⟨i, hi⟩ := List.getElem?_of_mem hx
      have hil := (List.getElem?_eq_some_iff.1 hi).1
      obtain ⟨p, hp⟩ : ∃ p, Ps[i]? = some p := ⟨_, List.getElem?_eq_getElem (by rw [← hTl]; exact hil)⟩
      obtain ⟨ts, e1, e2⟩ := hTr i p x hp hi
      have hpm := (hs1 p (List.mem_of_getElem? hp)).1
      have hsm : ∀ r ∈ p.map El.row, ∀ v ∈ r, v.b.length ≤ 8 := fun r hr v hv => by
        obtain ⟨y, hy, rfl⟩ := List.mem_map.1 hr
        exact (row9_smallA (hE.mem y (hpm y hy)) v hv).2
      have e3 : totT (p.map El.row) 4 c = some (extT (p.map El.row) c 1) := by unfold totT; simp
      simp only [List.map_cons, List.map_nil] at e2
      rw [e3] at e2
      have e4 : ts = [extT (p.map El.row) c 1] := by
        match ts, e2 with
        | [t], h => simp only [List.map_cons, List.map_nil, List.cons.injEq, Option.some.injEq, and_true] at h; rw [h]
        | [], h => simp at h
        | _ :: _ :: _, h => simp at h
      rw [if_pos (Int.le_refl _), e4] at e1
      have hrl : x.2.length = 2 := by have := congrArg List.length e1; unfold El.row at this; rw [List.length_map] at this; exact this
      refine ⟨by omega, fun t ht => ?_⟩
      have htm : t.1 ∈ x.row := by unfold El.row; exact List.mem_map_of_mem ht
      rw [e1] at htm
      simp only [List.cons_append, List.nil_append, List.mem_cons, List.not_mem_nil, or_false] at htm
      rcases htm with h | h
      · rw [h]
        have : (atT ((p.map El.row).headD []) 0).b.length ≤ 8 := atT_small fun v hv => by
          match hm : p.map El.row, hv with
          | [], hv => simp at hv
          | r :: R, hv => exact hsm r (by rw [hm]; exact List.mem_cons_self) v hv
        omega
      · rw [h]
        have := extT_small (c := c) (s := 1) _ hsm
        omega
    · exfalso
      rw [List.mem_singleton.1 ha] at hn
      unfold totT at hn
      simp at hn
theorem cols_kinds0 {cols : List Co} (hok : ColsOk cols) (l : List Int) (c : Int) (h0 : 0 ≤ c) (h1 : c < cols.length) : ∃ ks, ∀ E : List El, (∀ x ∈ E, x.row ∈ rows9 cols l) → KindsR ks (E.map fun y => [0, c].map (atT y.row)) := by
  obtain ⟨k1, _, n1⟩ := row9_atA hok c h0 h1
  obtain ⟨k2, _, n2⟩ := row9_atA hok 0 (Int.le_refl _) (by have := hok.ne; omega)
  refine ⟨[k2, k1], fun E hE r hr => ?_⟩
  obtain ⟨y, hy, rfl⟩ := List.mem_map.1 hr
  have a := n1 l _ (hE y hy)
  have b := n2 l _ (hE y hy)
  refine ⟨?_, fun v hv => ?_⟩
  · show [(atT y.row 0).k, (atT y.row c).k] = _
    rw [a.2, b.2]
  · simp only [List.map_cons, List.map_nil, List.mem_cons, List.not_mem_nil, or_false] at hv
    rcases hv with rfl | rfl
    · exact b.1
    · exact a.1
/-- Set, whether it comes to a row or not: what it answers is one's own. -/
theorem setR_own {K : Nat} {o : Option (List Vc)} {e : Ending} {w : World} (h : RetS K o e w) (ho : ∀ r, o = some r → r.length ≤ 1000000) : ∃ (v : Value) (l : List (Vc × Value)) (ok : Bool), e = .returned (.tuple #[v, .bool ok]) ∧ RdRA K w v l ∧ SmallD [(v, l)] := by
  cases o with
  | none => exact ⟨.slice none 0 0, [], false, h, rdRA_of (World.ownsRow_nil ..) (fun t ht => by cases ht), by simp, fun x hx => by rw [List.mem_singleton.1 hx]; exact ⟨by simp, fun t ht => by cases ht⟩⟩
  | some r =>
    obtain ⟨v', l', he, h1, h2, h3⟩ := h
    refine ⟨v', l', true, he, h1, by simp, fun x hx => ?_⟩
    rw [List.mem_singleton.1 hx]
    refine ⟨?_, fun t ht => (h3 t ht).2⟩
    have := ho r rfl
    rw [← h2, List.length_map] at this
    exact this
theorem setsT_len : ∀ (l : List SetP) (r r' : List Vc), setsT r l = some r' → r'.length = r.length
  | [], r, r', h => by cases h; rfl
  | y :: l, r, r', h => by
    unfold setsT at h
    split at h
    · cases h
    · split at h
      · cases h
      · rw [setsT_len l _ r' h, List.length_set]
/-- One row's slice, as a slice of rows, may be turned. -/
theorem turnI_one {K : Nat} {w : World} {v : Value} {l : List (Vc × Value)} (h : RdRA K w v l) (hk : K ≤ w.heap.size) : TurnI K [(v, l)] (.slice (some ⟨w.heap.size, 0, none⟩) 1 1) 1 (w.alloc (.cells #[v] 33)) := by
  refine TurnI.of (E := [(v, l)]) ⟨World.ownsRow_lit w #[v] 1 hk (by unfold maxLen; omega) rfl, fun x hx => ?_⟩
  rw [List.mem_singleton.1 hx]
  exact h.above (above_below (below_alloc w _)) (Nat.le_refl _)
end Go.Proofs.Ytnfjdoeemnhkbaa
