/-
  Contract of norm.times.
-/
import Derived.Test.YtnfjdoeemnhkbaaNcat
namespace Go.Proofs.Ytnfjdoeemnhkbaa
set_option linter.unusedVariables false
set_option linter.unusedSimpArgs false
open Go.RowKit

mutual
/-- These cells read as that predicate, whatever becomes of X. -/
def RdT1F (X : Nat → Prop) (w : World) : Pt → List Value → Prop
  | .mk k c o v l, cs => ∃ s ls css, cs = cellsP k c o v s ls ∧ Free X w (fun w' => OkV w' (v, s)) ∧ Free X w (fun w' => RdS w' 8 ls css) ∧ RdTsF X w l css
def RdTsF (X : Nat → Prop) (w : World) : List Pt → List (List Value) → Prop
  | [], [] => True
  | q :: r, cs :: t => RdT1F X w q cs ∧ RdTsF X w r t
  | [], _ :: _ => False
  | _ :: _, [] => False
end
mutual
theorem RdT1F.to {X Y Z : Nat → Prop} {w w' : World} (ha : Agree Z w w') (hz : ∀ i, i < w.heap.size → Z i → X i) (hy : ∀ i, i < w.heap.size → Y i → X i) : ∀ (p : Pt) {cs : List Value}, RdT1F X w p cs → RdT1F Y w' p cs
  | .mk k c o v l, cs, h => by
    unfold RdT1F at h ⊢
    obtain ⟨s, ls, css, h1, h2, h3, h4⟩ := h
    exact ⟨s, ls, css, h1, h2.to ha hz hy, h3.to ha hz hy, RdTsF.to ha hz hy l h4⟩
theorem RdTsF.to {X Y Z : Nat → Prop} {w w' : World} (ha : Agree Z w w') (hz : ∀ i, i < w.heap.size → Z i → X i) (hy : ∀ i, i < w.heap.size → Y i → X i) : ∀ (l : List Pt) {css : List (List Value)}, RdTsF X w l css → RdTsF Y w' l css
  | [], [], _ => by unfold RdTsF; trivial
  | q :: r, cs :: t, h => by
    unfold RdTsF at h ⊢
    exact ⟨RdT1F.to ha hz hy q h.1, RdTsF.to ha hz hy r h.2⟩
  | [], _ :: _, h => by unfold RdTsF at h; exact h.elim
  | _ :: _, [], h => by unfold RdTsF at h; exact h.elim
end
mutual
theorem RdT1F.free {X : Nat → Prop} {w : World} : ∀ (p : Pt) {cs : List Value}, RdT1F X w p cs → Free X w (fun w' => RdT1 w' p cs)
  | .mk k c o v l, cs, h => by
    unfold RdT1F at h
    obtain ⟨s, ls, css, h1, h2, h3, h4⟩ := h
    intro w' ha
    unfold RdT1
    exact ⟨s, ls, css, h1, h2 w' ha, h3 w' ha, RdTsF.free l h4 w' ha⟩
theorem RdTsF.free {X : Nat → Prop} {w : World} : ∀ (l : List Pt) {css : List (List Value)}, RdTsF X w l css → Free X w (fun w' => RdTs w' l css)
  | [], [], _ => fun w' _ => by unfold RdTs; trivial
  | q :: r, cs :: t, h => fun w' ha => by
    unfold RdTsF at h
    unfold RdTs
    exact ⟨RdT1F.free q h.1 w' ha, RdTsF.free r h.2 w' ha⟩
  | [], _ :: _, h => by unfold RdTsF at h; exact h.elim
  | _ :: _, [], h => by unfold RdTsF at h; exact h.elim
end
mutual
theorem rdT1F_of {w : World} : ∀ (p : Pt) {cs : List Value}, RdT1 w p cs → RdT1F (fun b => w.heap.size ≤ b) w p cs
  | .mk k c o v l, cs, h => by
    unfold RdT1 at h
    unfold RdT1F
    obtain ⟨s, ls, css, h1, h2, h3, h4⟩ := h
    exact ⟨s, ls, css, h1, free_kept fun _ hb => h2.kept hb, free_kept fun _ hb => h3.kept hb, rdTsF_of l h4⟩
theorem rdTsF_of {w : World} : ∀ (l : List Pt) {css : List (List Value)}, RdTs w l css → RdTsF (fun b => w.heap.size ≤ b) w l css
  | [], [], _ => by unfold RdTsF; trivial
  | q :: r, cs :: t, h => by
    unfold RdTs at h
    unfold RdTsF
    exact ⟨rdT1F_of q h.1, rdTsF_of r h.2⟩
  | [], _ :: _, h => by unfold RdTs at h; exact h.elim
  | _ :: _, [], h => by unfold RdTs at h; exact h.elim
end
theorem RdT1F.now {X : Nat → Prop} {w : World} {p : Pt} {cs : List Value} (h : RdT1F X w p cs) : RdT1 w p cs := (RdT1F.free p h).now
theorem RdTsF.now {X : Nat → Prop} {w : World} {l : List Pt} {css : List (List Value)} (h : RdTsF X w l css) : RdTs w l css := (RdTsF.free l h).now
theorem RdTsF.at {X : Nat → Prop} {w : World} : ∀ {l : List Pt} {css : List (List Value)}, RdTsF X w l css → ∀ {k : Nat} {q : Pt}, l[k]? = some q → ∃ cs, css[k]? = some cs ∧ RdT1F X w q cs
  | [], [], _, k, q, hk => by simp at hk
  | p :: r, cs :: t, h, 0, q, hk => by
    unfold RdTsF at h
    simp only [List.getElem?_cons_zero, Option.some.injEq] at hk
    subst hk
    exact ⟨cs, rfl, h.1⟩
  | p :: r, cs :: t, h, k + 1, q, hk => by
    unfold RdTsF at h
    rw [List.getElem?_cons_succ] at hk ⊢
    exact RdTsF.at h.2 hk
  | [], _ :: _, h, _, _, _ => by unfold RdTsF at h; exact h.elim
  | _ :: _, [], h, _, _, _ => by unfold RdTsF at h; exact h.elim

/-- s is a slice that reads as these predicates, whatever becomes of X. -/
def RdLF (X : Nat → Prop) (w : World) (s : Value) (l : List Pt) : Prop := ∃ css, Free X w (fun w' => RdS w' 8 s css ∧ RdTs w' l css)
/-- v is a slice of such. -/
def RdNF (X : Nat → Prop) (w : World) (v : Value) (a : List (List Pt)) : Prop :=
  ∃ sls, Free X w (fun w' => Rd w' v sls) ∧ sls.length = a.length ∧ ∀ (i : Nat) (s : Value) (l : List Pt), sls[i]? = some s → a[i]? = some l → RdLF X w s l
theorem RdLF.to {X Y Z : Nat → Prop} {w w' : World} {s : Value} {l : List Pt} (h : RdLF X w s l) (ha : Agree Z w w') (hz : ∀ i, i < w.heap.size → Z i → X i) (hy : ∀ i, i < w.heap.size → Y i → X i) : RdLF Y w' s l := by
  obtain ⟨css, h⟩ := h
  exact ⟨css, h.to ha hz hy⟩
theorem RdLF.mono {X Y : Nat → Prop} {w : World} {s : Value} {l : List Pt} (h : RdLF X w s l) (hy : ∀ i, i < w.heap.size → Y i → X i) : RdLF Y w s l := by
  obtain ⟨css, h⟩ := h
  exact ⟨css, h.mono hy⟩
theorem RdNF.to {X Y Z : Nat → Prop} {w w' : World} {v : Value} {a : List (List Pt)} (h : RdNF X w v a) (ha : Agree Z w w') (hz : ∀ i, i < w.heap.size → Z i → X i) (hy : ∀ i, i < w.heap.size → Y i → X i) : RdNF Y w' v a := by
  obtain ⟨sls, h1, h2, h3⟩ := h
  exact ⟨sls, h1.to ha hz hy, h2, fun i s l hs hl => (h3 i s l hs hl).to ha hz hy⟩
theorem RdNF.mono {X Y : Nat → Prop} {w : World} {v : Value} {a : List (List Pt)} (h : RdNF X w v a) (hy : ∀ i, i < w.heap.size → Y i → X i) : RdNF Y w v a := by
  obtain ⟨sls, h1, h2, h3⟩ := h
  exact ⟨sls, h1.mono hy, h2, fun i s l hs hl => (h3 i s l hs hl).mono hy⟩
theorem rdLF_shape {X : Nat → Prop} {w : World} {s : Value} {l : List Pt} (h : RdLF X w s l) : ∃ ao cap, s = .slice ao l.length cap := by
  obtain ⟨css, h⟩ := h
  obtain ⟨ao, cap, rfl⟩ := rdS_shape h.now.1
  exact ⟨ao, cap, by rw [rdTs_len h.now.2]⟩
theorem rdNF_shape {X : Nat → Prop} {w : World} {v : Value} {a : List (List Pt)} (h : RdNF X w v a) : ∃ ao cap, v = .slice ao a.length cap := by
  obtain ⟨sls, h1, h2, _⟩ := h
  obtain ⟨ao, cap, hv, _⟩ := h1.now
  exact ⟨ao, cap, by rw [← h2]; exact hv⟩
/-- The k-th of them. -/
theorem RdNF.at {X : Nat → Prop} {w : World} {ao : Option Addr} {n cap : Nat} {a : List (List Pt)} (h : RdNF X w (.slice ao n cap) a) {k : Nat} {l : List Pt} (hk : a[k]? = some l) :
    ∃ b off sa sc, ao = some ⟨b, off, none⟩ ∧ w.cell? ⟨b, off + k, none⟩ = some (.slice sa l.length sc) ∧ RdLF X w (.slice sa l.length sc) l := by
  obtain ⟨sls, h1, h2, h3⟩ := h
  obtain ⟨ao', cap', hv, _, hc⟩ := h1.now
  cases hv
  have hlt : k < sls.length := by rw [h2]; exact (List.getElem?_eq_some_iff.1 hk).1
  obtain ⟨b, off, rfl, hcell⟩ := hc (by omega)
  have h4 := h3 k _ l (List.getElem?_eq_getElem hlt) hk
  obtain ⟨sa, sc, h5⟩ := rdLF_shape h4
  refine ⟨b, off, sa, sc, rfl, ?_, h5 ▸ h4⟩
  rw [hcell k hlt, List.getD_eq_getElem?_getD, List.getElem?_eq_getElem hlt, ← h5]
  rfl
theorem rdT1_ones {w : World} {p : Pt} {cs : List Value} (h : RdT1 w p cs) : cs.length = 8 ∧ ∀ u ∈ cs, u.oneCell' = true := by
  obtain ⟨k, c, o, v, l⟩ := p
  unfold RdT1 at h
  obtain ⟨s, ls, css, rfl, h1, h2, _⟩ := h
  obtain ⟨a, m, h3⟩ := rd_shape8 h1.1
  obtain ⟨a2, m2, h4⟩ := rdS_shape h2
  simp only at h3
  rw [h3, h4]
  exact ⟨rfl, by simp [cellsP, Value.oneCell']⟩
theorem rdTs_ones {w : World} : ∀ {l : List Pt} {css : List (List Value)}, RdTs w l css → Ones 8 css
  | [], [], _ => fun t ht => by cases ht
  | p :: r, c :: t, h => fun u hu => by
    unfold RdTs at h
    rcases List.mem_cons.1 hu with h1 | h1
    · rw [h1]; exact rdT1_ones h.1
    · exact rdTs_ones h.2 u h1
  | [], _ :: _, h => by unfold RdTs at h; exact h.elim
  | _ :: _, [], h => by unfold RdTs at h; exact h.elim
theorem RdTs.append {w : World} {l' : List Pt} {css' : List (List Value)} (k : RdTs w l' css') : ∀ {l : List Pt} {css : List (List Value)}, RdTs w l css → RdTs w (l ++ l') (css ++ css')
  | [], [], _ => k
  | p :: r, c :: t, h => by
    unfold RdTs at h
    show RdTs w (p :: (r ++ l')) (c :: (t ++ css'))
    unfold RdTs
    exact ⟨h.1, RdTs.append k h.2⟩
  | [], _ :: _, h => by unfold RdTs at h; exact h.elim
  | _ :: _, [], h => by unfold RdTs at h; exact h.elim

/-- What a call that hands back such lists, or none, comes to. -/
def RetN (X : Nat → Prop) (w : World) (r : Option (List (List Pt))) (e : Ending) (w' : World) : Prop :=
  match r with
  | none => e = .returned (.tuple #[.slice none 0 0, .bool false])
  | some o => ∃ v, e = .returned (.tuple #[v, .bool true]) ∧ RdNF (fun b => X b ∧ b < w.heap.size) w' v o

/-- A row of one's own whose elements are such lists. -/
def OwnN (X : Nat → Prop) (B : Nat) (w : World) (v : Value) (o : List (List Pt)) : Prop :=
  ∃ sls, w.ownsRow B 63 1 v o.length sls ∧ sls.length = o.length ∧ ∀ (i : Nat) (s : Value) (l : List Pt), sls[i]? = some s → o[i]? = some l → RdLF (fun b => (X b ∧ b < B) ∨ v.ownBlock = some b) w s l
theorem ownN_nil (X : Nat → Prop) (B : Nat) (w : World) : OwnN X B w (.slice none 0 0) [] := ⟨[], World.ownsRow_nil .., rfl, fun i s l h => by simp at h⟩
theorem OwnN.rd {X : Nat → Prop} {B : Nat} {w : World} {v : Value} {o : List (List Pt)} (h : OwnN X B w v o) : RdNF (fun b => X b ∧ b < B) w v o := by
  obtain ⟨sls, h1, h2, h3⟩ := h
  refine ⟨sls, fun w' ha => ?_, h2, fun i s l hs hl => (h3 i s l hs hl).mono fun b _ hb => .inl hb⟩
  refine Rd.of_owns (ownsRow_agree h1 ha fun b hb hx => ?_)
  have := (h1.lt b hb).1
  omega

theorem ownN_push {X : Nat → Prop} {B : Nat} {wr w2 w4 : World} {o3 : Obj} {v v4 s : Value} {o : List (List Pt)} {sls : List Value} {l : List Pt} {css : List (List Value)}
    (hown : wr.ownsRow B 63 1 v o.length sls) (hlen : sls.length = o.length) (hel : ∀ (i : Nat) (s : Value) (l : List Pt), sls[i]? = some s → o[i]? = some l → RdLF (fun b => (X b ∧ b < B) ∨ v.ownBlock = some b) wr s l)
    (hag : Below wr.heap.size wr w2) {K : Nat} (hK : wr.heap.size ≤ K) (hs : w2.ownsRow K 65 8 s css.length css.flatten) (hon : Ones 8 css)
    (hg : (w2.alloc o3).grownBy w4 v.ownBlock) (hnew : ∀ g, v4.ownBlock = some g → v.ownBlock = some g ∨ g = (w2.alloc o3).heap.size)
    (h4 : w4.ownsRow B 63 1 v4 (o.length + 1) (sls ++ [s])) (hB : B ≤ wr.heap.size)
    (hl : Free (fun b => X b ∨ B ≤ b) wr (fun w' => RdTs w' l css)) : OwnN X B w4 v4 (o ++ [l]) := by
  have hsz : (w2.alloc o3).heap.size = w2.heap.size + 1 := by simp
  have hag4 : Agree (fun b => v.ownBlock = some b) wr w4 := ((Agree.refl _ wr).thenBelow hag).alloc o3 |>.thenGrown hg fun i _ h => h
  have hold : ∀ b, v.ownBlock = some b → B ≤ b ∧ b < wr.heap.size := fun b hb => hown.lt b hb
  have hsb : ∀ b, s.ownBlock = some b → wr.heap.size ≤ b ∧ b < w2.heap.size := fun b hb => ⟨Nat.le_trans hK (hs.lt b hb).1, (hs.lt b hb).2⟩
  have hs4 : w4.ownsRow K 65 8 s css.length css.flatten := by
    refine ownsRow_agree (hs.alloc o3) (agree_grown hg) fun b hb hx => ?_
    have h1 := hold b hx
    have h2 := hsb b hb
    omega
  refine ⟨sls ++ [s], by rw [List.length_append]; exact h4, by rw [List.length_append, List.length_append, hlen]; rfl, fun i t lt hi hli => ?_⟩
  have hY : ∀ b, b < wr.heap.size → ((X b ∧ b < B) ∨ v4.ownBlock = some b) → ((X b ∧ b < B) ∨ v.ownBlock = some b) := fun b hb h => by
    rcases h with h | h
    · exact .inl h
    · rcases hnew b h with h | h
      · exact .inr h
      · have := hag.size; omega
  by_cases hlt : i < sls.length
  · rw [List.getElem?_append_left hlt] at hi
    rw [List.getElem?_append_left (by rw [← hlen]; exact hlt)] at hli
    exact (hel i t lt hi hli).to hag4 (fun b _ h => .inr h) hY
  · have hi1 : i = sls.length := by
      have := (List.getElem?_eq_some_iff.1 hi).1
      rw [List.length_append] at this
      simp at this
      omega
    rw [List.getElem?_append_right (by omega), hi1, Nat.sub_self] at hi
    rw [List.getElem?_append_right (by rw [← hlen]; omega), ← hlen, hi1, Nat.sub_self] at hli
    cases hi
    cases hli
    refine ⟨css, fun w5 h5 => ⟨?_, ?_⟩⟩
    · refine rdS_own (ownsRow_agree hs4 h5 fun b hb hx => ?_) rfl fun t ht => (hon t ht).1
      have h2 := hsb b hb
      rcases hx with hx | hx
      · have := hx.2; omega
      · rcases hnew b hx with h | h
        · have := hold b h; omega
        · omega
    · refine hl w5 ((hag4.mono fun b hb h => .inr (hold b h).1).then h5 fun b hb h => ?_)
      rcases h with h | h
      · exact .inl h.1
      · rcases hnew b h with h | h
        · exact .inr (hold b h).1
        · have := hag.size; omega

theorem prodL_succ {a b : List (List Pt)} {q : Nat} {x : List Pt} (h : a[q]? = some x) : prodL (a.take (q + 1)) b = prodL (a.take q) b ++ b.map (fun y => x ++ y) := by
  unfold prodL
  rw [List.take_add_one, h, List.flatMap_append]
  simp
theorem prodB_succ {b : List (List Pt)} {j : Nat} {x y : List Pt} (h : b[j]? = some y) : (b.take (j + 1)).map (fun y => x ++ y) = (b.take j).map (fun y => x ++ y) ++ [x ++ y] := by
  rw [List.take_add_one, h, List.map_append]
  simp

end Go.Proofs.Ytnfjdoeemnhkbaa
