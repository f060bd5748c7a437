import Derived.Test.YtmpgnjhgegbdkaaGreatLsix
import Derived.Test.YtmpgnjhgegbdkaaGreatSgf
import Derived.Test.YtmpgnjhgegbdkaaGreatSgm
set_option linter.unusedVariables false
set_option linter.unusedSimpArgs false
namespace Go.Proofs.YtmpgnjhgegbdkaaGreat
open Go.RowKit
open _root_.List renaming mem_singleton -> Qa, length_append -> Qb, mem_append -> Qc, getElem?_cons_zero -> Qd, set_cons_succ -> Qe, mem_of_getElem? -> Qf, getElem?_append_left -> Qg, getElem?_append_right -> Qh, length_take -> Qj, length_drop -> Qk, map_cons -> Qm, flatten_cons -> Qn, mem_cons_of_mem -> Qo, getElem?_eq_some_iff -> Qp, mem_cons_self -> Qr, mem_cons -> Qs, getElem?_of_mem -> Qt
open _root_.Bool renaming and_eq_true -> Qi
open _root_.Option renaming map_some -> Ql
open _root_.Nat renaming sub_self -> Qq
theorem zJa : ∀ (x : List Co) (y : List Vc), x.length = y.length -> (∀ (k : Nat) (a : Co) (b : Vc), x[k]? = some a -> y[k]? = some b -> fitsT a b = true) -> fitsR x y = true
 | [], [], _, _ => rfl
 | [], _ :: _, h, _ => by cases h
 | _ :: _, [], h, _ => by cases h
 | a :: x, b :: y, h, hf => by
  rw [fitsR, hf 0 a b rfl rfl, zJa x y (by simpa using h) fun k a b h1 h2 => hf (k + 1) a b (by simpa using h1) (by simpa using h2)]
  rfl
theorem zMr : ∀ (x : List Co) (y : List Vc) (k : Nat) (c : Co) (v : Vc), fitsR x y = true -> x[k]? = some c -> fitsR x (y.set k v) = fitsT c v
 | [], _, k, c, v, _, h => by simp at h
 | _ :: _, [], k, c, v, h, _ => by simp [fitsR] at h
 | a :: x, b :: y, 0, c, v, h, hc => by
  simp only [Qd, Option.some.injEq] at hc
  subst hc
  rw [fitsR, Qi] at h
  rw [List.set_cons_zero, fitsR, h.2, Bool.and_true]
 | a :: x, b :: y, k + 1, c, v, h, hc => by
  rw [fitsR, Qi] at h
  rw [Qe, fitsR, h.1, zMr x y k c v h.2 (by simpa using hc), Bool.true_and]
theorem zU5 (a b : Nat) : decide (((abcs.drop a).take b).length <= 64) = true := by
 rw [decide_eq_true_eq, Qj, Qk, show abcs.length = 8 from rfl]
 omega
theorem zRc (c : Co) (n : Int) (h : c.k = 1 ∨ c.k = 2) : fitsT c (valOf c n) = true := by
 obtain ⟨nm, k, u⟩ := c
 simp only at h
 unfold valOf
 split
 ·rename_i h1
  simp only at h1
  unfold fitsT
  rcases h with rfl | rfl <;> simp [h1.1]
 ·split
  ·rename_i h1
   simp only at h1
   subst h1
   simp [fitsT]
  ·rename_i h1
   simp only at h1
   have h2 : k = 2 := h.resolve_left h1
   subst h2
   have := zU5 (n / 8 % 4).toNat (n / 32 % 4).toNat
   unfold fitsT
   simp only [this]
   rfl
theorem zPe {cols : List Co} (h : ColsOk cols) (n : Int) : fitsR cols (rowOf cols n) = true := by
 refine zJa _ _ (zE2 cols n).symm fun k a b h1 h2 => ?_
 rw [zJ3, h1] at h2
 simp only [Ql, Option.some.injEq] at h2
 subst h2
 unfold eltOf
 split
 ·rename_i h0
  subst h0
  obtain ⟨e1, e2⟩ := h.hd a h1
  unfold fitsT
  simp [e1]
 ·exact zRc a _ (h.ks a (Qf h1))
theorem zMs : ∀ (l : List (Vc × Value)) (k : Nat) (t : Vc × Value), k < l.length ->
  (((((l.map cellsV).flatten.set (k * 4) (.bool t.1.u)).set (k * 4 + 1) (.int .i64 t.1.k)).set (k * 4 + 2) (.int .i64 t.1.n)).set (k * 4 + 3) t.2) = ((l.set k t).map cellsV).flatten
 | [], k, t, h => by simp at h
 | a :: r, 0, t, h => by simp [cellsV]
 | a :: r, k + 1, t, h => by
  have ih := zMs r k t (by simpa using h)
  rw [Qe, Qm, Qn, Qm, Qn, <- ih]
  rw [show (k + 1) * 4 = k * 4 + 1 + 1 + 1 + 1 by omega]
  simp only [cellsV, List.cons_append, List.nil_append]
  rw [show k * 4 + 1 + 1 + 1 + 1 + 1 = (k * 4 + 1) + 1 + 1 + 1 + 1 by omega, show k * 4 + 1 + 1 + 1 + 1 + 2 = (k * 4 + 2) + 1 + 1 + 1 + 1 by omega, show k * 4 + 1 + 1 + 1 + 1 + 3 = (k * 4 + 3) + 1 + 1 + 1 + 1 by omega]
  simp only [Qe]
theorem OInv.set {w wr : World} {l : List (Vc × Value)} {g n cap k : Nat} {t : Vc × Value} (hn : l.length = n) (h : OInv w l (.slice (some ⟨g, 0, none⟩) n cap) wr) (hk : k < l.length) (ht : OkV wr t) (hf : FarV g t) :
  OInv w (l.set k t) (.slice (some ⟨g, 0, none⟩) n cap) ((((wr.setCell ⟨g, k * 4, none⟩ (.bool t.1.u)).setCell ⟨g, k * 4 + 1, none⟩ (.int .i64 t.1.k)).setCell ⟨g, k * 4 + 2, none⟩ (.int .i64 t.1.n)).setCell ⟨g, k * 4 + 3, none⟩ t.2) := by
 have hg : wr.grownBy ((((wr.setCell ⟨g, k * 4, none⟩ (.bool t.1.u)).setCell ⟨g, k * 4 + 1, none⟩ (.int .i64 t.1.k)).setCell ⟨g, k * 4 + 2, none⟩ (.int .i64 t.1.n)).setCell ⟨g, k * 4 + 3, none⟩ t.2) (some g) :=
  zAb (zAb (zAb (zAj _ ⟨g, k * 4, none⟩ _) (zAj _ ⟨g, k * 4 + 1, none⟩ _)) (zAj _ ⟨g, k * 4 + 2, none⟩ _)) (zAj _ ⟨g, k * 4 + 3, none⟩ _)
 have hall : ∀ u ∈ l.set k t, OkV wr u ∧ FarV g u := fun u hu => by
  rcases List.mem_or_eq_of_mem_set hu with h1 | h1
  ·exact ⟨h.ok u h1, h.far u h1 g rfl⟩
  ·rw [h1]; exact ⟨ht, hf⟩
 refine ⟨?_, fun u hu => ((hall u hu).1).grown hg (fun j hj => by cases hj; exact (hall u hu).2), fun u hu j hj => ?_⟩
 ·have hst := (((((show wr.ownsRow w.heap.size 31 4 (.slice (some ⟨g, 0, none⟩) n cap) n (l.map cellsV).flatten by have := h.own; rw [hn] at this; exact this).stored (k * 4) (.bool t.1.u)).1.stored (k * 4 + 1) (.int .i64 t.1.k)).1.stored (k * 4 + 2) (.int .i64 t.1.n)).1.stored (k * 4 + 3) t.2).1
  rw [zMs l k t hk] at hst
  rw [List.length_set, hn]
  exact hst
 ·have : g = j := by simpa [Value.ownBlock] using hj
  subst this
  exact (hall u hu).2
theorem RdP.take {w : World} {ao : Option Addr} {n cap : Nat} {l : List (Vc × Value)} (h : RdP w (.slice ao n cap) l) (k : Nat) (hk : k <= l.length) : RdP w (.slice ao k cap) (l.take k) := by
 obtain ⟨⟨ao', cap', hv, hn, hc⟩, hok⟩ := h
 simp only [Value.slice.injEq] at hv
 obtain ⟨rfl, rfl, rfl⟩ := hv
 rw [List.length_map] at hn
 refine ⟨⟨ao, cap, by simp; omega, ⟨hn.1, by simp; omega⟩, fun j t ht => ?_⟩, fun t ht => hok t (List.mem_of_mem_take ht)⟩
 refine hc j t ?_
 rw [List.getElem?_map] at ht ⊢
 rw [List.getElem?_take] at ht
 split at ht
 ·exact ht
 ·simp at ht
theorem RdB.move {K K0 : Nat} {w w' : World} {s : Value} {bs : List Nat} (h : RdB K w s bs) (hk : K0 <= K) (hb : ∀ a n c, s = .slice (some a) n c -> bs ≠ [] -> K <= a.block -> a.block < w.heap.size -> w'.heap[a.block]? = w.heap[a.block]?) : RdB K0 w' s bs := by
 obtain ⟨ao, cap, hv, hn, hc⟩ := h
 refine ⟨ao, cap, hv, hn, fun hp => ?_⟩
 obtain ⟨b, off, ha, hK, hcell⟩ := hc hp
 refine ⟨b, off, ha, Nat.le_trans hk hK, fun i hi => ?_⟩
 have h0 := hcell i hi
 have hlt : b < w.heap.size := World.block_lt_of_cell? w ⟨b, off + i, none⟩ h0
 rw [<- h0]
 exact World.cell?_of_block (hb ⟨b, off, none⟩ _ _ (by rw [hv, ha]) (by intro e; rw [e] at hp; cases hp) hK hlt)
theorem RowsB.add {B n cap : Nat} {ao : Option Addr} {w w3 w4 : World} {o : Obj} {v4 s : Value} {g : Nat} {sls : List Value} {L : List (List (Vc × Value))} {l : List (Vc × Value)}
  (h : RowsB B w (.slice ao n cap) sls L) (hB : B <= w.heap.size) (hb : Below w.heap.size w w3) (hs : s.ownBlock = some g) (hrow : w3.ownsRow w.heap.size 31 4 s l.length (l.map cellsV).flatten)
  (hv : ∀ t ∈ l, RdB w.heap.size w3 t.2 t.1.b ∧ (∀ x ∈ t.1.b, x < 256) ∧ FarV g t) (hg : (w3.alloc o).grownBy w4 (Value.slice ao n cap).ownBlock) (hn : ∀ b, v4.ownBlock = some b -> (Value.slice ao n cap).ownBlock = some b ∨ b = (w3.alloc o).heap.size)
  (h4 : w4.ownsRow B 27 1 v4 (L.length + 1) (sls ++ [s])) : RowsB B w4 v4 (sls ++ [s]) (L ++ [l]) := by
 have hsz : (w3.alloc o).heap.size = w3.heap.size + 1 := by simp
 have hold : ∀ b, (Value.slice ao n cap).ownBlock = some b -> B <= b ∧ b < w.heap.size := h.own.lt
 have hgl := hrow.lt g hs
 have hag : Agree (fun b => (Value.slice ao n cap).ownBlock = some b) w w4 := (((Agree.refl _ w).thenBelow hb).alloc o).thenGrown hg fun i _ h => h
 have hag3 : Agree (fun b => (Value.slice ao n cap).ownBlock = some b) w3 w4 := (zBs _ w3 o).thenGrown hg fun i _ h => h
 have hsls : ∀ (i : Nat) (a : Value), sls[i]? = some a -> ∀ b, a.ownBlock = some b -> B <= b ∧ b < w.heap.size := fun i a ha b hab => h.blocks a (Qo _ (Qf ha)) b hab
 have hv4 : ∀ b, v4.ownBlock = some b -> b < w.heap.size ∧ (Value.slice ao n cap).ownBlock = some b ∨ w3.heap.size < b := fun b hb2 => (hn b hb2).imp (fun h => ⟨(hold b h).2, h⟩) fun h => by omega
 refine ⟨by rw [Qb]; exact h4, by rw [Qb, Qb, h.len]; rfl, ?_, fun i u k hu hk => ?_, fun w' ha k hk t ht => ?_, fun k hk t ht => ?_⟩
 ·intro i j a b q hi hj hqa hqb
  have hb3 := hb.size
  have key : ∀ (i : Nat) (a : Value), (v4 :: (sls ++ [s]))[i]? = some a -> a.ownBlock = some q -> (i = 0 ∧ (q < w.heap.size ∧ (Value.slice ao n cap).ownBlock = some q ∨ w3.heap.size < q)) ∨ (∃ k, i = k + 1 ∧ sls[k]? = some a ∧ q < w.heap.size) ∨ (i = sls.length + 1 ∧ q = g) := fun i a hi hqa => by
   cases i with
   | zero => simp only [Qd, Option.some.injEq] at hi; subst hi; exact .inl ⟨rfl, hv4 q hqa⟩
   | succ k =>
    rw [List.getElem?_cons_succ] at hi
    by_cases hk : k < sls.length
    ·rw [Qg hk] at hi
     exact .inr (.inl ⟨k, rfl, hi, (hsls k a hi q hqa).2⟩)
    ·rw [Qh (by omega)] at hi
     have hk2 : k - sls.length = 0 := by have := (Qp.1 hi).1; simp at this; omega
     rw [hk2] at hi
     simp only [Qd, Option.some.injEq] at hi
     subst hi
     rw [hs] at hqa
     exact .inr (.inr ⟨by omega, (Option.some.inj hqa).symm⟩)
  have hap : ∀ (k : Nat) (a : Value), sls[k]? = some a -> a.ownBlock = some q -> (Value.slice ao n cap).ownBlock = some q -> False := fun k a ha hq1 hq2 => by
   have := h.apart 0 (k + 1) _ a q rfl (by simpa using ha) hq2 hq1
   omega
  rcases key i a hi hqa with ⟨e1, c1⟩ | ⟨k1, e1, c1, d1⟩ | ⟨e1, c1⟩
  ·rcases key j b hj hqb with ⟨e2, c2⟩ | ⟨k2, e2, c2, d2⟩ | ⟨e2, c2⟩
   ·omega
   ·rcases c1 with ⟨_, c1⟩ | c1
    ·exact absurd (hap k2 b c2 hqb c1) (fun h => h)
    ·omega
   ·omega
  ·rcases key j b hj hqb with ⟨e2, c2⟩ | ⟨k2, e2, c2, d2⟩ | ⟨e2, c2⟩
   ·rcases c2 with ⟨_, c2⟩ | c2
    ·exact absurd (hap k1 a c1 hqa c2) (fun h => h)
    ·omega
   ·have := h.apart (k1 + 1) (k2 + 1) a b q (by simpa using c1) (by simpa using c2) hqa hqb
    omega
   ·omega
  ·rcases key j b hj hqb with ⟨e2, c2⟩ | ⟨k2, e2, c2, d2⟩ | ⟨e2, c2⟩ <;> omega
 ·by_cases hi : i < sls.length
  ·rw [Qg hi] at hu
   rw [Qg (by rw [<- h.len]; exact hi)] at hk
   refine zAl (h.row i u k hu hk) hag fun b hb2 e => ?_
   have := h.apart 0 (i + 1) _ u b rfl (by simpa using hu) e hb2
   omega
  ·have hi1 : i = sls.length := by have := (Qp.1 hu).1; rw [Qb] at this; simp at this; omega
   rw [Qh (by omega), hi1, Qq] at hu
   rw [Qh (by rw [<- h.len]; omega), <- h.len, hi1, Qq] at hk
   cases hu
   cases hk
   refine Joins.ownsRow_le (zAl hrow hag3 fun b hb2 e => ?_) hB
   have := (hrow.lt b hb2).1
   have := (hold b e).2
   omega
 ·rcases Qc.1 hk with hk | hk
  ·exact h.val.at_ (w' := w4) (Y := fun b => ∃ u ∈ v4 :: (sls ++ [s]), u.ownBlock = some b) (fun b _ h2 h3 => hag.block b h2 fun e => h3 ⟨_, Qr, e⟩) hag.size (fun b hb2 e => by
    obtain ⟨u, hu, hub⟩ := e
    rcases Qs.1 hu with rfl | hu
    ·rcases hv4 b hub with h2 | h2
     ·exact ⟨_, Qr, h2.2⟩
     ·have := hb.size; omega
    ·rcases Qc.1 hu with hu | hu
     ·exact ⟨u, Qo _ hu, hub⟩
     ·rw [Qa.1 hu, hs] at hub
      cases hub
      omega) w' ha k hk t ht
  ·rw [Qa.1 hk] at ht
   obtain ⟨h1, h2, h3⟩ := hv t ht
   refine h1.move hB fun a m c hv2 hne hK hlt => ?_
   refine (ha a.block (by omega) (Nat.lt_of_lt_of_le hlt hag3.size) fun e => ?_).trans (hag3.block a.block hlt fun e => by have := (hold _ e).2; omega)
   obtain ⟨u, hu, hub⟩ := e
   rcases Qs.1 hu with rfl | hu
   ·rcases hv4 _ hub with h4 | h4 <;> omega
   ·rcases Qc.1 hu with hu | hu
    ·obtain ⟨i, hi⟩ := Qt hu
     have := (hsls i u hi _ hub).2
     omega
    ·rw [Qa.1 hu, hs] at hub
     exact h3 hne a m c hv2 (Option.some.inj hub).symm
 ·rcases Qc.1 hk with hk | hk
  ·exact h.lt k hk t ht
  ·rw [Qa.1 hk] at ht
   exact (hv t ht).2.1
theorem zTi (B : Nat) (w : World) : RowsB B w (.slice none 0 0) [] [] where
 own := World.ownsRow_nil ..
 len := rfl
 apart := fun i j a b g hi hj ha hb => by
  have : ∀ (k : Nat) (c : Value), [Value.slice none 0 0][k]? = some c -> c.ownBlock ≠ some g := fun k c h e => by
   have := Qf h
   rw [Qa.1 this] at e
   cases e
  exact absurd ha (this i a hi)
 row := fun i s l hs => by simp at hs
 val := fun w' _ l hl => by cases hl
 lt := fun l hl => by cases hl
theorem zTj (n : Int) : I64 (numOf n) := by
 unfold numOf
 split
 ·unfold I64 wrap64
  omega
 ·split
  ·unfold I64; omega
  ·split <;> (unfold I64; omega)
theorem zPj (c : Co) (n : Int) : I64 (valOf c n).n ∧ (valOf c n).b.length <= 8 := by
 unfold valOf
 split
 ·exact ⟨by unfold I64; simp, by simp⟩
 ·split
  ·exact ⟨zTj n, by simp⟩
  ·refine ⟨by unfold I64; simp, ?_⟩
   simp only [Qj, Qk]
   have : abcs.length = 8 := rfl
   omega
theorem zPk {cols : List Co} (n : Int) : ∀ v ∈ rowOf cols n, I64 v.n ∧ v.b.length <= 8 := fun v hv => by
 obtain ⟨i, hi⟩ := Qt hv
 rw [zJ3] at hi
 cases hc : cols[i]? with
 | none => rw [hc] at hi; cases hi
 | some c =>
  rw [hc] at hi
  simp only [Ql, Option.some.injEq] at hi
  rw [<- hi]
  unfold eltOf
  split
  ·exact ⟨by unfold I64; simp only; omega, by simp⟩
  ·exact zPj c _
end Go.Proofs.YtmpgnjhgegbdkaaGreat
