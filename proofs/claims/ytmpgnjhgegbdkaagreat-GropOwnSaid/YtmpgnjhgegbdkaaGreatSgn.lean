import Derived.Test.YtmpgnjhgegbdkaaGreatSgg
import Derived.Test.YtmpgnjhgegbdkaaGreatFitm
import Derived.Test.YtmpgnjhgegbdkaaGreatZsafem
set_option linter.unusedVariables false
set_option linter.unusedSimpArgs false
namespace Go.Proofs.YtmpgnjhgegbdkaaGreat
open Go.RowKit
open _root_.List renaming mem_of_getElem? -> Qa, mem_singleton -> Qb, length_append -> Qc, mem_append -> Qd, mem_cons_of_mem -> Qe, getElem?_append_left -> Qf, getElem?_append_right -> Qg, getElem?_eq_some_iff -> Qh, getElem?_cons_zero -> Qi, mem_cons_self -> Qk, mem_cons -> Ql, getElem?_of_mem -> Qm, length_set -> Qn, mem_or_eq_of_mem_set -> Qo
open _root_.Nat renaming sub_self -> Qj
theorem RdB.move {K K0 : Nat} {w w' : World} {s : Value} {bs : List Nat} (h : RdB K w s bs) (hk : K0 <= K) (hb : ∀ a n c, s = .slice (some a) n c -> bs ≠ [] -> K <= a.block -> a.block < w.heap.size -> w'.heap[a.block]? = w.heap[a.block]?) : RdB K0 w' s bs := by
 obtain ⟨ao, cap, hv, hn, hc⟩ := h
 refine ⟨ao, cap, hv, hn, fun hp => ?_⟩
 obtain ⟨b, off, ha, hK, hcell⟩ := hc hp
 refine ⟨b, off, ha, Nat.le_trans hk hK, fun i hi => ?_⟩
 have h0 := hcell i hi
 have hlt : b < w.heap.size := World.block_lt_of_cell? w ⟨b, off + i, none⟩ h0
 rw [<- h0]
 exact World.cell?_of_block (hb ⟨b, off, none⟩ _ _ (by rw [hv, ha]) (by intro e; rw [e] at hp; cases hp) hK hlt)
theorem RowsB.add {B n cap : Nat} {ao : Option Addr} {w w3 w4 : World} {o : Obj} {v4 s : Value} {g : Nat} {sls : List Value} {L : List (List (Vc × Value))} {l : List (Vc × Value)}
  (h : RowsB B w (.slice ao n cap) sls L) (hB : B <= w.heap.size) (hb : Below w.heap.size w w3) (hs : s.ownBlock = some g) (hrow : w3.ownsRow w.heap.size 31 4 s l.length (l.map cellsV).flatten)
  (hv : ∀ t ∈ l, RdB w.heap.size w3 t.2 t.1.b ∧ (∀ x ∈ t.1.b, x < 256) ∧ FarV g t) (hg : (w3.alloc o).grownBy w4 (Value.slice ao n cap).ownBlock) (hn : ∀ b, v4.ownBlock = some b -> (Value.slice ao n cap).ownBlock = some b ∨ b = (w3.alloc o).heap.size)
  (h4 : w4.ownsRow B 27 1 v4 (L.length + 1) (sls ++ [s])) : RowsB B w4 v4 (sls ++ [s]) (L ++ [l]) := by
 have hsz : (w3.alloc o).heap.size = w3.heap.size + 1 := by simp
 have hold : ∀ b, (Value.slice ao n cap).ownBlock = some b -> B <= b ∧ b < w.heap.size := h.own.lt
 have hgl := hrow.lt g hs
 have hag : Agree (fun b => (Value.slice ao n cap).ownBlock = some b) w w4 := (((Agree.refl _ w).thenBelow hb).alloc o).thenGrown hg fun i _ h => h
 have hag3 : Agree (fun b => (Value.slice ao n cap).ownBlock = some b) w3 w4 := (zCf _ w3 o).thenGrown hg fun i _ h => h
 have hsls : ∀ (i : Nat) (a : Value), sls[i]? = some a -> ∀ b, a.ownBlock = some b -> B <= b ∧ b < w.heap.size := fun i a ha b hab => h.blocks a (Qe _ (Qa ha)) b hab
 have hv4 : ∀ b, v4.ownBlock = some b -> b < w.heap.size ∧ (Value.slice ao n cap).ownBlock = some b ∨ w3.heap.size < b := fun b hb2 => (hn b hb2).imp (fun h => ⟨(hold b h).2, h⟩) fun h => by omega
 refine ⟨by rw [Qc]; exact h4, by rw [Qc, Qc, h.len]; rfl, ?_, fun i u k hu hk => ?_, fun w' ha k hk t ht => ?_, fun k hk t ht => ?_⟩
 ·intro i j a b q hi hj hqa hqb
  have hb3 := hb.size
  have key : ∀ (i : Nat) (a : Value), (v4 :: (sls ++ [s]))[i]? = some a -> a.ownBlock = some q -> (i = 0 ∧ (q < w.heap.size ∧ (Value.slice ao n cap).ownBlock = some q ∨ w3.heap.size < q)) ∨ (∃ k, i = k + 1 ∧ sls[k]? = some a ∧ q < w.heap.size) ∨ (i = sls.length + 1 ∧ q = g) := fun i a hi hqa => by
   cases i with
   | zero => simp only [Qi, Option.some.injEq] at hi; subst hi; exact .inl ⟨rfl, hv4 q hqa⟩
   | succ k =>
    rw [List.getElem?_cons_succ] at hi
    by_cases hk : k < sls.length
    ·rw [Qf hk] at hi
     exact .inr (.inl ⟨k, rfl, hi, (hsls k a hi q hqa).2⟩)
    ·rw [Qg (by omega)] at hi
     have hk2 : k - sls.length = 0 := by have := (Qh.1 hi).1; simp at this; omega
     rw [hk2] at hi
     simp only [Qi, Option.some.injEq] at hi
     subst hi
     rw [hs] at hqa
     exact .inr (.inr ⟨by omega, (Option.some.inj hqa).symm⟩)
  have hap : ∀ (k : Nat) (a : Value), sls[k]? = some a -> a.ownBlock = some q -> (Value.slice ao n cap).ownBlock = some q -> False := fun k a ha hq1 hq2 => by
   have := h.apart 0 (k + 1) _ a q rfl (by simpa using ha) hq2 hq1
   omega
  rcases key i a hi hqa with ⟨e1, c1⟩ | ⟨k1, e1, c1, d1⟩ | ⟨e1, c1⟩
  ·rcases key j b hj hqb with ⟨e2, c2⟩ | ⟨k2, e2, c2, d2⟩ | ⟨e2, c2⟩
   ·omega
   ·rcases c1 with ⟨_, c1⟩ | c1
    ·exact absurd (hap k2 b c2 hqb c1) (fun h => h)
    ·omega
   ·omega
  ·rcases key j b hj hqb with ⟨e2, c2⟩ | ⟨k2, e2, c2, d2⟩ | ⟨e2, c2⟩
   ·rcases c2 with ⟨_, c2⟩ | c2
    ·exact absurd (hap k1 a c1 hqa c2) (fun h => h)
    ·omega
   ·have := h.apart (k1 + 1) (k2 + 1) a b q (by simpa using c1) (by simpa using c2) hqa hqb
    omega
   ·omega
  ·rcases key j b hj hqb with ⟨e2, c2⟩ | ⟨k2, e2, c2, d2⟩ | ⟨e2, c2⟩ <;> omega
 ·by_cases hi : i < sls.length
  ·rw [Qf hi] at hu
   rw [Qf (by rw [<- h.len]; exact hi)] at hk
   refine zAe (h.row i u k hu hk) hag fun b hb2 e => ?_
   have := h.apart 0 (i + 1) _ u b rfl (by simpa using hu) e hb2
   omega
  ·have hi1 : i = sls.length := by have := (Qh.1 hu).1; rw [Qc] at this; simp at this; omega
   rw [Qg (by omega), hi1, Qj] at hu
   rw [Qg (by rw [<- h.len]; omega), <- h.len, hi1, Qj] at hk
   cases hu
   cases hk
   refine Joins.ownsRow_le (zAe hrow hag3 fun b hb2 e => ?_) hB
   have := (hrow.lt b hb2).1
   have := (hold b e).2
   omega
 ·rcases Qd.1 hk with hk | hk
  ·exact h.val.at_ (w' := w4) (Y := fun b => ∃ u ∈ v4 :: (sls ++ [s]), u.ownBlock = some b) (fun b _ h2 h3 => hag.block b h2 fun e => h3 ⟨_, Qk, e⟩) hag.size (fun b hb2 e => by
    obtain ⟨u, hu, hub⟩ := e
    rcases Ql.1 hu with rfl | hu
    ·rcases hv4 b hub with h2 | h2
     ·exact ⟨_, Qk, h2.2⟩
     ·have := hb.size; omega
    ·rcases Qd.1 hu with hu | hu
     ·exact ⟨u, Qe _ hu, hub⟩
     ·rw [Qb.1 hu, hs] at hub
      cases hub
      omega) w' ha k hk t ht
  ·rw [Qb.1 hk] at ht
   obtain ⟨h1, h2, h3⟩ := hv t ht
   refine h1.move hB fun a m c hv2 hne hK hlt => ?_
   refine (ha a.block (by omega) (Nat.lt_of_lt_of_le hlt hag3.size) fun e => ?_).trans (hag3.block a.block hlt fun e => by have := (hold _ e).2; omega)
   obtain ⟨u, hu, hub⟩ := e
   rcases Ql.1 hu with rfl | hu
   ·rcases hv4 _ hub with h4 | h4 <;> omega
   ·rcases Qd.1 hu with hu | hu
    ·obtain ⟨i, hi⟩ := Qm hu
     have := (hsls i u hi _ hub).2
     omega
    ·rw [Qb.1 hu, hs] at hub
     exact h3 hne a m c hv2 (Option.some.inj hub).symm
 ·rcases Qd.1 hk with hk | hk
  ·exact h.lt k hk t ht
  ·rw [Qb.1 hk] at ht
   exact (hv t ht).2.1
theorem zP8 (B : Nat) (w : World) : RowsB B w (.slice none 0 0) [] [] where
 own := World.ownsRow_nil ..
 len := rfl
 apart := fun i j a b g hi hj ha hb => by
  have : ∀ (k : Nat) (c : Value), [Value.slice none 0 0][k]? = some c -> c.ownBlock ≠ some g := fun k c h e => by
   have := Qa h
   rw [Qb.1 this] at e
   cases e
  exact absurd ha (this i a hi)
 row := fun i s l hs => by simp at hs
 val := fun w' _ l hl => by cases hl
 lt := fun l hl => by cases hl
theorem RowsB.poke {B k q : Nat} {w : World} {v s : Value} {g m c : Nat} {sls : List Value} {L : List (List (Vc × Value))} {l l' : List (Vc × Value)} {u : Value} (h : RowsB B w v sls L) (hs : sls[k]? = some s) (hl : L[k]? = some l) (hsv : s = .slice (some ⟨g, 0, none⟩) m c)
  (hc : ((l.map cellsV).flatten).set q u = (l'.map cellsV).flatten) (hln : l'.length = l.length) (hvl : ∀ t ∈ l', t.2 = .slice none 0 0 ∧ t.1.b = [] ∨ ∃ t0 ∈ l, t0.2 = t.2 ∧ t0.1.b = t.1.b) : RowsB B (w.setCell ⟨g, q, none⟩ u) v sls (L.set k l') := by
 subst hsv
 have hag : Agree (fun b => b = g) w (w.setCell ⟨g, q, none⟩ u) := zBl _ w ⟨g, q, none⟩ u rfl
 have hgs : (Value.slice (some ⟨g, 0, none⟩) m c) ∈ v :: sls := Qe _ (Qa hs)
 have hrow := h.row k _ l hs hl
 have hm : m = l.length := by
  obtain ⟨a, c', hv⟩ := zB2 hrow
  simp only [Value.slice.injEq] at hv
  exact hv.2.1
 subst hm
 have hval := h.val.to (Y := fun b => ∃ u ∈ v :: sls, u.ownBlock = some b) hag (fun b _ e => ⟨_, hgs, by rw [e]; rfl⟩) (fun b _ h => h)
 refine ⟨?_, by rw [Qn]; exact h.len, h.apart, fun i s2 k2 h1 h2 => ?_, fun w' ha k2 hk2 t ht => ?_, fun k2 hk2 t ht => ?_⟩
 ·rw [Qn]
  exact zAe h.own hag fun b hb e => by
   subst e
   have := h.apart 0 (k + 1) v _ b rfl (by simpa using hs) hb rfl
   omega
 ·by_cases hik : k = i
  ·subst hik
   rw [hs] at h1
   cases h1
   rw [List.getElem?_set_self (by rw [<- h.len]; exact (Qh.1 hs).1)] at h2
   cases h2
   rw [hln, <- hc]
   exact (hrow.stored q u).1
  ·rw [List.getElem?_set_ne hik] at h2
   refine zAe (h.row i s2 k2 h1 h2) hag fun b hb e => ?_
   subst e
   have := h.apart (k + 1) (i + 1) _ s2 b (by simpa using hs) (by simpa using h1) rfl hb
   omega
 ·rcases Qo hk2 with hk2 | rfl
  ·exact hval w' ha k2 hk2 t ht
  ·rcases hvl t ht with ⟨e1, e2⟩ | ⟨t0, ht0, e1, e2⟩
   ·rw [e1, e2]
    exact zSn _ _
   ·rw [<- e1, <- e2]
    exact hval w' ha l (Qa hl) t0 ht0
 ·rcases Qo hk2 with hk2 | rfl
  ·exact h.lt k2 hk2 t ht
  ·rcases hvl t ht with ⟨_, e2⟩ | ⟨t0, ht0, _, e2⟩
   ·rw [e2]; exact fun x hx => by cases hx
   ·rw [<- e2]
    exact h.lt l (Qa hl) t0 ht0
theorem zP9 (n : Int) : I64 (numOf n) := by
 unfold numOf
 split
 ·unfold I64 wrap64
  omega
 ·split
  ·unfold I64; omega
  ·split <;> (unfold I64; omega)
theorem zMu (c : Co) (n : Int) : I64 (valOf c n).n ∧ (valOf c n).b.length <= 8 := by
 unfold valOf
 split
 ·exact ⟨by unfold I64; simp, by simp⟩
 ·split
  ·exact ⟨zP9 n, by simp⟩
  ·refine ⟨by unfold I64; simp, ?_⟩
   simp only [List.length_take, List.length_drop]
   have : abcs.length = 8 := rfl
   omega
theorem zMv {cols : List Co} (n : Int) : ∀ v ∈ rowOf cols n, I64 v.n ∧ v.b.length <= 8 := fun v hv => by
 obtain ⟨i, hi⟩ := Qm hv
 rw [zF9] at hi
 cases hc : cols[i]? with
 | none => rw [hc] at hi; cases hi
 | some c =>
  rw [hc] at hi
  simp only [Option.map_some, Option.some.injEq] at hi
  rw [<- hi]
  unfold eltOf
  split
  ·exact ⟨by unfold I64; simp only; omega, by simp⟩
  ·exact zMu c _
end Go.Proofs.YtmpgnjhgegbdkaaGreat
