import Derived.Test.YtmpgnjhgegbdkaaGreatBcolp
import Derived.BigRegion
import Derived.Test.YtmpgnjhgegbdkaaGreatPlmath
import Derived.Test.YtmpgnjhgegbdkaaGreatNullg
import Derived.Test.YtmpgnjhgegbdkaaGreatAt
import Derived.Deep.DeepCutAuto
import Derived.Deep.RegionHeld3
import Derived.Deep.RegionLaw
import Derived.Test.YtmpgnjhgegbdkaaGreatIcola
set_option linter.unusedVariables false
set_option linter.unusedSimpArgs false
set_option maxRecDepth 100000
set_option maxHeartbeats 8000000
open Go.Lib (hid)
namespace Go.Proofs.YtmpgnjhgegbdkaaGreat.Bc
open Go.RowKit
open _root_.List renaming length -> Qa, mem_of_getElem? -> Qb, getElem?_eq_some_iff -> Qc, getElem?_map -> Qd, getElem?_set -> Qe
theorem zLl (l : List By) (bs : List Nat) (bv : Value) (i : Nat) (x : By) (w : World) (hd : decT bs (l.length : Int) = some l) (hx : l[i]? = some x) (hr : Rd w bv (bs.map u8v)) (h256 : ∀ x ∈ bs, x < 256) (hbig : bs.length <= 1000000) :
  Calls Tryz.prog 83 #[bv, .int .i64 (l.length : Int), .int .i64 (i : Int)] w fun e w' => ∃ v, e = .returned (.tuple #[v, .bool true]) ∧ OwnB w.heap.size w' v x ∧ Below w.heap.size w w' := by
 obtain ⟨ao, cap, rfl⟩ := zAh hr
 rw [List.length_map] at hr ⊢
 have hD := zQ1 bs (.slice ao bs.length cap) (l.length : Int) w hr h256 hbig
 rw [hd] at hD
 have hil := (Qc.1 hx).1
 obtain ⟨n, hn⟩ : ∃ n, n = l.length := ⟨_, rfl⟩
 rw [<- hn] at hD hil ⊢
 obtain ⟨m, hm⟩ : ∃ m, m = bs.length := ⟨_, rfl⟩
 rw [<- hm] at hD ⊢
 have HD := hid hD
 have HN := hid hn
 have HX := hid hx
 have hi0 : (0 : Int) <= (i : Int) := by omega
 have hin : (i : Int) < (n : Int) := by omega
 have hi1 : ¬ (i : Int) < 0 := by omega
 have hi2 : ¬ (n : Int) <= (i : Int) := by omega
 clear hd hr h256 hbig hD hx hm hn
 go_enter Tryz.func83, Tryz.ntmps83
 go_wp2_with fail
 refine HD.out.mono ?_
 rintro e w2 ⟨⟨v, ps, rfl, hown, hxs⟩, hb⟩
 have HB := hid hb
 have hpl : ps.length = n := by rw [<- zAt, hxs, HN.out]
 obtain ⟨ao2, k2, rfl⟩ := hown.row.shape
 rw [hpl] at hown ⊢
 obtain ⟨b4, o4, rfl, hc4⟩ := (zBo hown.row.rd).2 (by omega)
 obtain ⟨p, hp⟩ : ∃ p, ps[i]? = some p := ⟨_, List.getElem?_eq_getElem (by rw [hpl]; exact hil)⟩
 have hpx := zA8 hp
 rw [hxs, HX.out] at hpx
 obtain ⟨v, y⟩ := p
 obtain rfl : x = y := Option.some.inj hpx
 have hO := hown.els _ (Qb hp)
 obtain ⟨va, vc, hv⟩ := OwnB.shape hO
 have hv2 : v = .slice va (Qa x) vc := hv
 clear hv
 subst hv2
 have hy : w2.cell? ⟨b4, o4 + i, none⟩ = some (.slice va (Qa x) vc) := hc4 i _ hp
 have HO := hid hO
 clear hb hown hc4 HD hp hpx hO hxs hpl
 go_wp2_with fail
 go_ret2
 exact ⟨_, rfl, HO.out, HB.out⟩
theorem OwnE.at {base : Nat} {w : World} {v u : Value} {ps : Row} {x : By} {i : Nat} (h : OwnE base w v ps) (hi : ps[i]? = some (u, x)) : (v :: vs ps)[i + 1]? = some u := by
 rw [List.getElem?_cons_succ]
 unfold vs
 rw [Qd, hi]
 rfl
theorem OwnE.unlike {base : Nat} {w : World} {v u : Value} {ps : Row} {x : By} {i : Nat} (h : OwnE base w v ps) (hi : ps[i]? = some (u, x)) : v.ownBlock = none ∨ v.ownBlock ≠ u.ownBlock := by
 cases e : v.ownBlock with
 | none => exact .inl rfl
 | some g =>
  right
  intro e2
  have := h.apart 0 (i + 1) v u g rfl (h.at hi) e e2.symm
  omega
theorem OwnE.other {base : Nat} {w : World} {v u a : Value} {ps : Row} {x y : By} {i j : Nat} (h : OwnE base w v ps) (hi : ps[i]? = some (u, x)) (hj : ps[j]? = some (a, y)) (hij : i ≠ j) : a.ownBlock = none ∨ a.ownBlock ≠ u.ownBlock := by
 cases e : a.ownBlock with
 | none => exact .inl rfl
 | some g =>
  right
  intro e2
  have := h.apart (j + 1) (i + 1) a u g (h.at hj) (h.at hi) e e2.symm
  omega
theorem OwnE.poke {base ug n uc i k b : Nat} {w : World} {v : Value} {ps : Row} {x : By} (h : OwnE base w v ps) (hi : ps[i]? = some (.slice (some ⟨ug, 0, none⟩) n uc, x)) (hn : n = x.length) :
  OwnE base (w.setCell ⟨ug, k, none⟩ (.int .u8 (b : Int))) v (ps.set i (.slice (some ⟨ug, 0, none⟩) n uc, x.set k b)) := by
 subst hn
 have hg : w.grownBy (w.setCell ⟨ug, k, none⟩ (.int .u8 (b : Int))) (some ug) := zAi _ _ _
 have hil := (Qc.1 hi).1
 have hu := h.els _ (Qb hi)
 have hst := (World.ownsRow.stored hu k (.int .u8 (b : Int))).1
 have hvs : vs (ps.set i (.slice (some ⟨ug, 0, none⟩) (Qa x) uc, x.set k b)) = vs ps := by
  rw [zIv]
  apply List.ext_getElem?
  intro j
  rw [Qe]
  split
  ·rename_i e
   subst e
   have h1 : (vs ps)[i]? = some (.slice (some ⟨ug, 0, none⟩) (Qa x) uc) := by unfold vs; rw [Qd, hi]; rfl
   rw [h1, if_pos (by rw [zA1]; exact hil)]
  ·rfl
 refine ⟨?_, fun p hp => ?_, by rw [hvs]; exact h.apart⟩
 ·refine OwnR.of (n := ps.length) ?_
  rw [hvs]
  exact World.ownsRow.kept h.row hg (h.unlike hi)
 ·obtain ⟨j, hj⟩ := List.getElem?_of_mem hp
  rw [Qe] at hj
  by_cases hij : i = j
  ·rw [if_pos hij, if_pos hil] at hj
   cases hj
   refine OwnB.of (n := Qa x) ?_
   rw [List.map_set]
   exact hst
  ·rw [if_neg hij] at hj
   exact World.ownsRow.kept (h.els p (Qb hj)) hg (h.other (a := p.1) (y := p.2) hi hj hij)
end Go.Proofs.YtmpgnjhgegbdkaaGreat.Bc
namespace Go.Proofs.YtmpgnjhgegbdkaaGreat
open Go.RowKit
def BytesAt (w : World) (v : Value) : Prop := ∃ bs : List Nat, Rd w v (bs.map u8v) ∧ (∀ x ∈ bs, x < 256) ∧ bs.length <= 17592186044416
theorem BytesAt.kept {w w' : World} {v : Value} (h : BytesAt w v) (hb : Below w.heap.size w w') : BytesAt w' v := by
 obtain ⟨bs, h1, h2⟩ := h
 exact ⟨bs, h1.kept hb, h2⟩
def RowsAt (w : World) (g n : Nat) : Prop := ∀ j, j < n -> ∃ v, w.cell? ⟨g, j, none⟩ = some v ∧ BytesAt w v
theorem RowsAt.kept {w w' : World} {g n : Nat} (h : RowsAt w g n) (hb : Below w.heap.size w w') : RowsAt w' g n := by
 intro j hj
 obtain ⟨v, hc, hv⟩ := h j hj
 exact ⟨v, (hb.cell (p := ⟨g, j, none⟩) (World.block_lt_of_cell? _ _ hc)).trans hc, hv.kept hb⟩
end Go.Proofs.YtmpgnjhgegbdkaaGreat
namespace Go.Proofs.YtmpgnjhgegbdkaaGreat.Bc
def dig : Nat -> Nat -> By
 | 0, _ => []
 | k + 1, U => U / 256 ^ k % 256 :: dig k U
def offN (n : Int) : Nat := (n + 9223372036854775808).toNat
def textT (n : Int) : By := dig 8 (offN n)
def num64 (x : By) : Int := ((x.foldl (fun u b => u * 256 + b) 0 : Nat) : Int) - 9223372036854775808
def tolT (nums : Bool) (x : By) : List Nat := if nums = true then Go.Proofs.YtmpgnjhgegbdkaaGreat.putT (num64 x) else putT x
def gPlain (nums : Bool) (l : List By) : List Nat := (l.map (tolT nums)).flatten
def gRuns (nums : Bool) (l : List By) : List Nat := ((grp l).map fun p => numC p.1 ++ tolT nums p.2).flatten
def gDict (nums : Bool) (l : List By) : List Nat := numC (wordsT l).length ++ gPlain nums (wordsT l) ++ packB (Lib.bitLen ((wordsT l).length - 1)) (l.map (placeT (wordsT l)))
def gKind (nums : Bool) (k : Int) (l : List By) : List Nat := if k = 1 then gPlain nums l else if k = 2 then gRuns nums l else if k = 3 then frameT (l.map num64) else gDict nums l
def gTell (nums : Bool) (k : Int) (l : List By) : Option (List Nat) := if 65535 < l.length ∨ k < 1 ∨ 4 < k ∨ (k = 3 ∧ nums = false) then none else some (k.toNat :: gKind nums k l)
end Go.Proofs.YtmpgnjhgegbdkaaGreat.Bc
namespace Go.Proofs.YtmpgnjhgegbdkaaGreat
open Go.RowKit
end Go.Proofs.YtmpgnjhgegbdkaaGreat
namespace Go.Proofs.YtmpgnjhgegbdkaaGreat.Bc
open Go.RowKit
open _root_.List renaming mem_append -> Qa, mem_singleton -> Qb
def OkT (nums : Bool) (x : By) : Prop := (∀ a ∈ x, a < 256) ∧ x.length <= 64 ∧ (nums = true -> ∃ z, I64 z ∧ x = textT z)
structure Told (nums : Bool) (k : Nat) (r : List Nat) (count : Int) (L : List By) : Prop where
 kk : 1 <= k ∧ k <= 4 ∧ (k = 3 -> nums = true)
 len : (L.length : Int) = count
 le : L.length <= 65535
 ok : ∀ x ∈ L, OkT nums x
 eq : r = gKind nums (k : Int) L
theorem Told.tell {nums : Bool} {k : Nat} {r : List Nat} {count : Int} {L : List By} (h : Told nums k r count L) : gTell nums (k : Int) L = some (k :: r) := by
 obtain ⟨h1, h2, h3⟩ := h.kk
 unfold gTell
 rw [if_neg, Int.toNat_natCast, <- h.eq]
 rintro (h4 | h4 | h4 | ⟨h4, h5⟩)
 ·have := h.le; omega
 ·omega
 ·omega
 ·rw [h3 (by omega)] at h5; cases h5
structure FarO (base : Nat) (w : World) (v : Value) (ps : Row) : Prop where
 row : OwnR base w v ps
 els : ∀ p ∈ ps, OwnB base w p.1 p.2
 off : ∀ p ∈ ps, p.1.ownBlock = none ∨ p.1.ownBlock ≠ v.ownBlock
theorem FarO.kept {base : Nat} {w w' : World} {v : Value} {ps : Row} {row : Option Nat} (h : FarO base w v ps) (hg : w.grownBy w' row) (hr : ∀ g, row = some g -> g < base ∨ w.heap.size <= g) : FarO base w' v ps := by
 have key : ∀ (T : TypeId) (sz n : Nat) (u : Value) (l : List Value), w.ownsRow base T sz u n l -> u.ownBlock = none ∨ u.ownBlock ≠ row := fun T sz n u l hu => by
  cases e : u.ownBlock with
  | none => exact .inl rfl
  | some g =>
   right
   intro e2
   have h1 := zDj hu e
   have h2 := zAg hu g e
   rcases hr g e2.symm with h3 | h3 <;> omega
 exact ⟨World.ownsRow.kept h.row hg (key _ _ _ _ _ h.row), fun p hp => World.ownsRow.kept (h.els p hp) hg (key _ _ _ _ _ (h.els p hp)), h.off⟩
theorem FarO.keptR {base r : Nat} {w w' : World} {v : Value} {ps : Row} (h : FarO base w v ps) (hg : w.grownBy w' (some r)) (hr : r < base) : FarO base w' v ps := h.kept hg fun g e => by cases e; exact .inl hr
theorem FarO.keptB {base : Nat} {w w' : World} {v : Value} {ps : Row} (h : FarO base w v ps) (hb : Below w.heap.size w w') : FarO base w' v ps := h.kept (zAb hb none) fun g e => by cases e
theorem FarO.snoc {base : Nat} {w w' : World} {v v' u : Value} {ps : Row} {x : By} (h : FarO base w v ps) (hu : OwnB base w u x) (hf : u.ownBlock = none ∨ u.ownBlock ≠ v.ownBlock)
  (h9 : w'.ownsRow base 29 1 v' (ps.length + 1) (vs ps ++ [u])) (hg : w.grownBy w' v.ownBlock) (hn : ∀ g, v'.ownBlock = some g -> v.ownBlock = some g ∨ w.heap.size <= g) : FarO base w' v' (ps ++ [(u, x)]) := by
 have key : ∀ (a : Value) (y : By), OwnB base w a y -> (a.ownBlock = none ∨ a.ownBlock ≠ v.ownBlock) -> (a.ownBlock = none ∨ a.ownBlock ≠ v'.ownBlock) := fun a y ha h1 => by
  cases e : a.ownBlock with
  | none => exact .inl rfl
  | some g =>
   right
   intro e2
   rcases hn g e2.symm with h3 | h3
   ·rcases h1 with h1 | h1
    ·rw [h1] at e; cases e
    ·exact h1 (e.trans h3.symm)
   ·have := zDj ha e; omega
 refine ⟨OwnR.of (n := ps.length + 1) (by rw [zEn]; exact h9), fun p hp => ?_, fun p hp => ?_⟩
 ·rcases Qa.1 hp with hp | hp
  ·exact World.ownsRow.kept (h.els p hp) hg (h.off p hp)
  ·obtain rfl := Qb.1 hp
   exact World.ownsRow.kept hu hg hf
 ·rcases Qa.1 hp with hp | hp
  ·exact key _ _ (h.els p hp) (h.off p hp)
  ·obtain rfl := Qb.1 hp
   exact key _ _ hu hf
end Go.Proofs.YtmpgnjhgegbdkaaGreat.Bc
