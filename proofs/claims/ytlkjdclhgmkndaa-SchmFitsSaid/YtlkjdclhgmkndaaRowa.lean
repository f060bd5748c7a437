/-
  Contract of layer 6's Row.
-/
import Derived.Test.YtlkjdclhgmkndaaFits6
namespace Go.Proofs.Ytlkjdclhgmkndaa
set_option linter.unusedVariables false
set_option linter.unusedSimpArgs false
open Go.RowKit

/-- Which number a column's value is of. -/
def mixOf (n : Int) (i : Nat) : Int := bits .xor .i64 (n / 2 ^ (3 * i)) (n / 131072)
def eltOf (n : Int) (i : Nat) (c : Co) : Vc := if i = 0 then ⟨false, 1, n % 16, []⟩ else valOf c (mixOf n i)
/-- A row of a number, of these columns. -/
def rowOf (cols : List Co) (n : Int) : List Vc := cols.mapIdx (eltOf n)

def FarV (g : Nat) (t : Vc × Value) : Prop := t.1.b ≠ [] → ∀ a n c, t.2 = .slice (some a) n c → a.block ≠ g
theorem OkV.grown {w w' : World} {t : Vc × Value} {g : Option Nat} (h : OkV w t) (hg : w.grownBy w' g) (hf : ∀ k, g = some k → FarV k t) : OkV w' t := by
  refine ⟨?_, h.2⟩
  obtain ⟨ao, cap, hv, hn, hc⟩ := h.1
  refine ⟨ao, cap, hv, hn, fun hp => ?_⟩
  obtain ⟨b, off, ha, hcell⟩ := hc hp
  refine ⟨b, off, ha, fun i hi => ?_⟩
  have h1 := hcell i hi
  rw [hg.cell_far ⟨b, off + i, none⟩ (World.block_lt_of_cell? _ _ h1) (fun e => hf b e.symm (fun e2 => by rw [e2] at hp; simp at hp) ⟨b, off, none⟩ _ cap (by rw [hv, ha]) rfl)]
  exact h1
theorem okV_lt {w : World} {t : Vc × Value} (h : OkV w t) (hb : t.1.b ≠ []) : ∀ a n c, t.2 = .slice (some a) n c → a.block < w.heap.size := by
  intro a n c he
  obtain ⟨ao, cap, hv, _, hc⟩ := h.1
  have hp : 0 < (t.1.b.map u8v).length := by
    rw [List.length_map]
    rcases Nat.eq_zero_or_pos t.1.b.length with h0 | h0
    · exact absurd (List.length_eq_zero_iff.1 h0) hb
    · exact h0
  obtain ⟨b, off, ha, hcell⟩ := hc hp
  rw [hv, ha] at he
  cases he
  exact World.block_lt_of_cell? _ _ (hcell 0 hp)

/-- Such values of one's own, as a slice. -/
structure OInv (w : World) (l : List (Vc × Value)) (v : Value) (wr : World) : Prop where
  own : wr.ownsRow w.heap.size 31 4 v l.length (l.map cellsV).flatten
  ok : ∀ t ∈ l, OkV wr t
  far : ∀ t ∈ l, ∀ g, v.ownBlock = some g → FarV g t

theorem OInv.kept {w wr w1 : World} {l : List (Vc × Value)} {v : Value} (h : OInv w l v wr) (hb : Below wr.heap.size wr w1) : OInv w l v w1 := by
  refine ⟨h.own.kept (⟨hb.os, hb.tape, hb.output, hb.size, fun k hk _ => hb.block k hk⟩ : wr.grownBy w1 none) ?_, fun t ht => (h.ok t ht).kept hb, h.far⟩
  rcases h.own.2 with ⟨rfl, _⟩ | ⟨g, cap, cur, rfl, _⟩
  · exact .inl rfl
  · exact .inr (by simp [Value.ownBlock])
theorem OInv.next {w wo w1 : World} {l : List (Vc × Value)} {ao : Option Addr} {k cap g cap1 : Nat} {t : Vc × Value} (h : OInv w l (.slice ao k cap) wo) (hk : l.length = k)
    (hok : OkV wo t) (hfar : ∀ g, (Value.slice ao k cap).ownBlock = some g → FarV g t)
    (hown : w1.ownsRow w.heap.size 31 4 (.slice (some ⟨g, 0, none⟩) (k + 1) cap1) (k + 1) ((l.map cellsV).flatten ++ cellsV t)) (hgrow : wo.grownBy w1 (Value.slice ao k cap).ownBlock)
    (hat : (Value.slice ao k cap).ownBlock = some g ∨ g = wo.heap.size) : OInv w (l ++ [t]) (.slice (some ⟨g, 0, none⟩) (k + 1) cap1) w1 := by
  have hall : ∀ u ∈ l ++ [t], OkV wo u ∧ ∀ g, (Value.slice ao k cap).ownBlock = some g → FarV g u := by
    intro u hu
    rcases List.mem_append.1 hu with h1 | h1
    · exact ⟨h.ok u h1, h.far u h1⟩
    · rw [List.mem_singleton.1 h1]; exact ⟨hok, hfar⟩
  refine ⟨?_, fun u hu => ((hall u hu).1).grown hgrow (fun j hj => (hall u hu).2 j hj), fun u hu j hj => ?_⟩
  · rw [List.length_append, hk, List.map_append, List.flatten_append]
    simpa using hown
  · have hj' : g = j := by simpa [Value.ownBlock] using hj
    subst hj'
    rcases hat with h1 | h1
    · exact (hall u hu).2 g h1
    · intro hb a n c he
      have := okV_lt (hall u hu).1 hb a n c he
      omega

theorem own_lt {w : World} {B : Nat} {E : TypeId} {size n : Nat} {v : Value} {xs : List Value} (h : w.ownsRow B E size v n xs) : ∀ g, v.ownBlock = some g → g < w.heap.size := by
  intro k hk
  rcases h.2 with ⟨rfl, _⟩ | ⟨g, cap, cur, rfl, hbg, hh, _⟩
  · cases hk
  · have h2 : g = k := by simpa [Value.ownBlock] using hk
    subst h2
    exact (Array.getElem?_eq_some_iff.1 hh).1

theorem take_mapIdx {α β : Type} (f : Nat → α → β) (l : List α) (k : Nat) (c : α) (h : l[k]? = some c) : (l.take (k + 1)).mapIdx f = (l.take k).mapIdx f ++ [f k c] := by
  have hk := (List.getElem?_eq_some_iff.1 h).1
  rw [List.take_add_one, h, Option.toList_some, List.mapIdx_concat, List.length_take, Nat.min_eq_left (by omega)]

theorem OInv.le {w w0 wr : World} {l : List (Vc × Value)} {v : Value} (h : OInv w l v wr) (hb : w0.heap.size ≤ w.heap.size) : OInv w0 l v wr := ⟨Joins.ownsRow_le h.own hb, h.ok, h.far⟩
theorem oinv_below {w wo w1 : World} {l : List (Vc × Value)} {v : Value} {B : World} (h : OInv w l v wo) (hb : Below w.heap.size w wo) (hg : wo.grownBy w1 v.ownBlock) : Below w.heap.size w w1 :=
  hb.grown hg hb.size (own_base h.own)

set_option maxRecDepth 100000 in
set_option maxHeartbeats 4000000 in
theorem row_any (v : Value) (cols : List Co) (n : Int) (w : World) (hv : RdC w v cols) (hl : cols.length ≤ 6) :
    Calls Try.prog 16 #[.agg #[v], .int .i64 n] w fun e w' => ∃ u l, e = .returned u ∧ l.map Prod.fst = rowOf cols n ∧ OInv w l u w' ∧ Below w.heap.size w w' := by
  obtain ⟨a1, c1, rfl⟩ := rdC_shape hv
  obtain ⟨m, hM⟩ : ∃ m, m = cols.length := ⟨_, rfl⟩
  rw [← hM] at hv hl ⊢
  have HX := Lib.hid (RdC.kept hv (below_alloc w (.cells #[.slice a1 m c1] 24)))
  have HBA := Lib.hid (below_alloc w (.cells #[.slice a1 m c1] 24))
  have HM := Lib.hid hM
  have hb15 : ∀ x, bits .and .i64 x 15 = x % 16 := fun x => and_low x 4 (by decide) 15 rfl
  obtain ⟨i0, hi, hz0, hz1, hz2⟩ := info_parts infoVal
  clear hv hM
  go_enter Try.func16, Try.ntmps16
  go_wp2_with fail
  go_loopw [5, 11] (fun o i wr => ∃ k : Nat, ∃ l ao cap, k ≤ m ∧ l.length = k ∧ i = .int .i64 (k : Int) ∧ o = .slice ao k cap ∧ l.map Prod.fst = (cols.take k).mapIdx (eltOf n) ∧ OInv (w.alloc (.cells #[.slice a1 m c1] 24)) l (.slice ao k cap) wr ∧ Below (w.alloc (.cells #[.slice a1 m c1] 24)).heap.size (w.alloc (.cells #[.slice a1 m c1] 24)) wr) (fun _ i _ => m - (intOf i).toNat)
  case atStart => exact ⟨0, [], none, 0, by omega, rfl, rfl, rfl, by simp, ⟨⟨rfl, .inl ⟨rfl, rfl⟩⟩, (fun t h => by cases h), (fun t h => by cases h)⟩, Below.refl _ _⟩
  case round =>
    obtain ⟨k, l, ao, cap, hk, hll, rfl, rfl, hrow, hinv, hbel⟩ := hrel
    obtain ⟨wo, rfl⟩ : ∃ wo : World, wo = wr := ⟨_, rfl⟩
    have HI := Lib.hid hinv
    have HL := Lib.hid hll
    have HW := Lib.hid hrow
    have HB := Lib.hid hbel
    clear hinv hll hrow hbel
    by_cases hlt : k < m
    · obtain ⟨c, hc⟩ : ∃ c, cols[k]? = some c := ⟨_, List.getElem?_eq_getElem (by rw [← HM.out]; exact hlt)⟩
      obtain ⟨b1, o1, rfl, p0, p1, p2⟩ := (RdC.kept HX.out HB.out).at hc
      have HE := Lib.hid (take_mapIdx (eltOf n) cols k c hc)
      clear hc
      by_cases h0 : k = 0
      · subst h0
        simp only [Nat.zero_mul, Nat.add_zero] at p0 p1 p2
        have HI2 := fun o1 o2 => Lib.hid (HI.out.kept (below2 wo o1 o2))
        have HO2 := fun o1 o2 => Lib.hid (show ((wo.alloc o1).alloc o2).ownsRow _ 31 4 (.slice ao 0 cap) 0 (l.map cellsV).flatten by have := (HI2 o1 o2).out.own; rw [HL.out] at this; exact this)
        go_wp2_with (at_builtin; go_must (refine wpList_append_lies _ rfl _ _ 26 rfl _ 31 i0 _ 4 48 Try.underlying26 hi hz0 hz1 hz2 rfl (by decide) (.slice ao 0 cap) 0 (l.map cellsV).flatten (by rfl) (HO2 _ _).out ⟨wo.heap.size + 1, 0, none⟩ 1 1 (cellsV (⟨false, 1, n % 16, []⟩, .slice none 0 0)) (by rfl) (by rfl) (World.news_of_block (cs := #[.bool false, .int .i64 1, .int .i64 (n % 16), .slice none 0 0]) (t := 31) (fr := (0, 0)) (heap2 wo _ _)) (by simp [cellsV, Value.oneCell']) (by decide) (by unfold maxLen; omega) (by omega) (by simp; have := HB.out.size; simp at this; omega) (wo.heap.size + 1 + 1) (by simp) ?_); intro gg cap1 w1 hown1 hgrow hat hlt2)
        have HN := Lib.hid (OInv.next (t := (⟨false, 1, n % 16, []⟩, .slice none 0 0)) (HI2 _ _).out HL.out ⟨Rd.nil _, fun x hx => by cases hx⟩ (fun g hg hb => absurd rfl hb) hown1 hgrow (by simpa using hat))
        have HBN := Lib.hid (oinv_below (B := wo) (HI2 _ _).out (below_lay (below_lay HB.out _) _) hgrow)
        clear hown1 hgrow hat hlt2
        go_wp2
        go_roundw
        case rel => exact ⟨1, l ++ [(⟨false, 1, n % 16, []⟩, .slice none 0 0)], _, _, by omega, by rw [List.length_append, HL.out]; rfl, by go_num, rfl, by rw [List.map_append, HW.out, HE.out]; rfl, HN.out, HBN.out⟩
        case measure => simp [intOf]; omega
      · have q0 : ((k : Int) == 0) = false := by rw [beq_eq_false_iff_ne]; omega
        have HV := Lib.hid (show eltOf n k c = valOf c (mixOf n k) by unfold eltOf; rw [if_neg h0])
        obtain ⟨tv, htv⟩ : ∃ tv, tv = valOf c (mixOf n k) := ⟨_, rfl⟩
        have HCV := Lib.hid (value_any c (mixOf n k))
        rw [← htv] at HCV HV
        clear htv
        unfold Co.agg aggV mixOf at HCV
        go_wp2_with fail
        refine (HCV.out _).mono ?_
        rintro e w2 ⟨s, rfl, hok, hb, hfr⟩
        obtain ⟨sa, sc, hs⟩ := rd_shape8 hok.1
        simp only at hs
        subst hs
        have HOK := Lib.hid (hok.kept (below_alloc w2 (.cells #[.bool tv.u, .int .i64 tv.k, .int .i64 tv.n, .slice sa tv.b.length sc] 31)))
        have HI2 := Lib.hid (((HI.out.kept (below_alloc wo _)).kept hb).kept (below_alloc w2 (.cells #[.bool tv.u, .int .i64 tv.k, .int .i64 tv.n, .slice sa tv.b.length sc] 31)))
        have HO2 := Lib.hid (show (w2.alloc (.cells #[.bool tv.u, .int .i64 tv.k, .int .i64 tv.n, .slice sa tv.b.length sc] 31)).ownsRow _ 31 4 (.slice ao k cap) k (l.map cellsV).flatten by have := HI2.out.own; rw [HL.out] at this; exact this)
        have HB2 := Lib.hid (below_lay (below_then (below_lay HB.out _) hb) (.cells #[.bool tv.u, .int .i64 tv.k, .int .i64 tv.n, .slice sa tv.b.length sc] 31))
        have HFA := Lib.hid (show ∀ g, (Value.slice ao k cap).ownBlock = some g → FarV g (tv, .slice sa tv.b.length sc) from fun g hg _ a n' c' he => by
          have h1 := own_lt HI.out.own g hg
          have h2 := hfr a n' c' he
          simp at h2
          omega)
        clear hok hb hfr
        go_wp2_with (at_builtin; go_must (refine wpList_append_lies _ rfl _ _ 26 rfl _ 31 i0 _ 4 48 Try.underlying26 hi hz0 hz1 hz2 rfl (by decide) (.slice ao k cap) k (l.map cellsV).flatten (by rfl) HO2.out ⟨w2.heap.size, 0, none⟩ 1 1 (cellsV (tv, .slice sa tv.b.length sc)) (by rfl) (by rfl) (World.news_of_block (cs := #[.bool tv.u, .int .i64 tv.k, .int .i64 tv.n, .slice sa tv.b.length sc]) (t := 31) (fr := (0, 0)) (heap_alloc_new w2 _)) (by simp [cellsV, Value.oneCell']) (by decide) (by unfold maxLen; omega) (by omega) HB2.out.size (w2.heap.size + 1) (by simp) ?_); intro gg cap1 w1 hown1 hgrow hat hlt2)
        have HN := Lib.hid (OInv.next (t := (tv, .slice sa tv.b.length sc)) HI2.out HL.out HOK.out HFA.out hown1 hgrow (by simpa using hat))
        have HBN := Lib.hid (oinv_below (B := wo) HI2.out HB2.out hgrow)
        clear hown1 hgrow hat hlt2
        go_wp2
        go_roundw
        case rel => exact ⟨k + 1, l ++ [(tv, .slice sa tv.b.length sc)], _, _, by omega, by rw [List.length_append, HL.out]; rfl, by go_num, rfl, by rw [List.map_append, HW.out, HE.out, HV.out]; rfl, HN.out, HBN.out⟩
        case measure => simp [intOf]; omega
    · have HK := Lib.hid (show l.map Prod.fst = rowOf cols n by
        rw [HW.out]
        have : cols.take k = cols := List.take_of_length_le (by rw [← HM.out]; omega)
        rw [this]; rfl)
      have HF := Lib.hid (HI.out.le HBA.out.size)
      go_wp2_with fail
      go_ret
      exact ⟨_, l, rfl, HK.out, HF.out, below_then HBA.out HB.out⟩

end Go.Proofs.Ytlkjdclhgmkndaa
