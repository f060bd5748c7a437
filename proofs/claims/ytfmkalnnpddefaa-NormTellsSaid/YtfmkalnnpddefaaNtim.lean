/-
  Contract of norm.times.
-/
import Derived.Test.YtfmkalnnpddefaaNcat
namespace Go.Proofs.Ytfmkalnnpddefaa
set_option linter.unusedVariables false
set_option linter.unusedSimpArgs false
open Go.RowKit

mutual
/-- These cells read as that predicate, whatever becomes of X. -/
def RdT1F (X : Nat → Prop) (w : World) : Pt → List Value → Prop
  | .mk k c o v l, cs => ∃ s ls css, cs = cellsP k c o v s ls ∧ Free X w (fun w' => OkV w' (v, s)) ∧ Free X w (fun w' => RdS w' 8 ls css) ∧ RdTsF X w l css
def RdTsF (X : Nat → Prop) (w : World) : List Pt → List (List Value) → Prop
  | [], [] => True
  | q :: r, cs :: t => RdT1F X w q cs ∧ RdTsF X w r t
  | [], _ :: _ => False
  | _ :: _, [] => False
end
mutual
theorem RdT1F.to {X Y Z : Nat → Prop} {w w' : World} (ha : Agree Z w w') (hz : ∀ i, i < w.heap.size → Z i → X i) (hy : ∀ i, i < w.heap.size → Y i → X i) : ∀ (p : Pt) {cs : List Value}, RdT1F X w p cs → RdT1F Y w' p cs
  | .mk k c o v l, cs, h => by
    unfold RdT1F at h ⊢
    obtain ⟨s, ls, css, h1, h2, h3, h4⟩ := h
    exact ⟨s, ls, css, h1, h2.to ha hz hy, h3.to ha hz hy, RdTsF.to ha hz hy l h4⟩
theorem RdTsF.to {X Y Z : Nat → Prop} {w w' : World} (ha : Agree Z w w') (hz : ∀ i, i < w.heap.size → Z i → X i) (hy : ∀ i, i < w.heap.size → Y i → X i) : ∀ (l : List Pt) {css : List (List Value)}, RdTsF X w l css → RdTsF Y w' l css
  | [], [], _ => by unfold RdTsF; trivial
  | q :: r, cs :: t, h => by
    unfold RdTsF at h ⊢
    exact ⟨RdT1F.to ha hz hy q h.1, RdTsF.to ha hz hy r h.2⟩
  | [], _ :: _, h => by unfold RdTsF at h; exact h.elim
  | _ :: _, [], h => by unfold RdTsF at h; exact h.elim
end
mutual
theorem RdT1F.free {X : Nat → Prop} {w : World} : ∀ (p : Pt) {cs : List Value}, RdT1F X w p cs → Free X w (fun w' => RdT1 w' p cs)
  | .mk k c o v l, cs, h => by
    unfold RdT1F at h
    obtain ⟨s, ls, css, h1, h2, h3, h4⟩ := h
    intro w' ha
    unfold RdT1
    exact ⟨s, ls, css, h1, h2 w' ha, h3 w' ha, RdTsF.free l h4 w' ha⟩
theorem RdTsF.free {X : Nat → Prop} {w : World} : ∀ (l : List Pt) {css : List (List Value)}, RdTsF X w l css → Free X w (fun w' => RdTs w' l css)
  | [], [], _ => fun w' _ => by unfold RdTs; trivial
  | q :: r, cs :: t, h => fun w' ha => by
    unfold RdTsF at h
    unfold RdTs
    exact ⟨RdT1F.free q h.1 w' ha, RdTsF.free r h.2 w' ha⟩
  | [], _ :: _, h => by unfold RdTsF at h; exact h.elim
  | _ :: _, [], h => by unfold RdTsF at h; exact h.elim
end
mutual
theorem rdT1F_of {w : World} : ∀ (p : Pt) {cs : List Value}, RdT1 w p cs → RdT1F (fun b => w.heap.size ≤ b) w p cs
  | .mk k c o v l, cs, h => by
    unfold RdT1 at h
    unfold RdT1F
    obtain ⟨s, ls, css, h1, h2, h3, h4⟩ := h
    exact ⟨s, ls, css, h1, free_kept fun _ hb => h2.kept hb, free_kept fun _ hb => h3.kept hb, rdTsF_of l h4⟩
theorem rdTsF_of {w : World} : ∀ (l : List Pt) {css : List (List Value)}, RdTs w l css → RdTsF (fun b => w.heap.size ≤ b) w l css
  | [], [], _ => by unfold RdTsF; trivial
  | q :: r, cs :: t, h => by
    unfold RdTs at h
    unfold RdTsF
    exact ⟨rdT1F_of q h.1, rdTsF_of r h.2⟩
  | [], _ :: _, h => by unfold RdTs at h; exact h.elim
  | _ :: _, [], h => by unfold RdTs at h; exact h.elim
end
theorem RdT1F.now {X : Nat → Prop} {w : World} {p : Pt} {cs : List Value} (h : RdT1F X w p cs) : RdT1 w p cs := (RdT1F.free p h).now
theorem RdTsF.now {X : Nat → Prop} {w : World} {l : List Pt} {css : List (List Value)} (h : RdTsF X w l css) : RdTs w l css := (RdTsF.free l h).now
theorem RdTsF.at {X : Nat → Prop} {w : World} : ∀ {l : List Pt} {css : List (List Value)}, RdTsF X w l css → ∀ {k : Nat} {q : Pt}, l[k]? = some q → ∃ cs, css[k]? = some cs ∧ RdT1F X w q cs
  | [], [], _, k, q, hk => by simp at hk
  | p :: r, cs :: t, h, 0, q, hk => by
    unfold RdTsF at h
    simp only [List.getElem?_cons_zero, Option.some.injEq] at hk
    subst hk
    exact ⟨cs, rfl, h.1⟩
  | p :: r, cs :: t, h, k + 1, q, hk => by
    unfold RdTsF at h
    rw [List.getElem?_cons_succ] at hk ⊢
    exact RdTsF.at h.2 hk
  | [], _ :: _, h, _, _, _ => by unfold RdTsF at h; exact h.elim
  | _ :: _, [], h, _, _, _ => by unfold RdTsF at h; exact h.elim

/-- s is a slice that reads as these predicates, whatever becomes of X. -/
def RdLF (X : Nat → Prop) (w : World) (s : Value) (l : List Pt) : Prop := ∃ css, Free X w (fun w' => RdS w' 8 s css ∧ RdTs w' l css)
/-- v is a slice of such. -/
def RdNF (X : Nat → Prop) (w : World) (v : Value) (a : List (List Pt)) : Prop :=
  ∃ sls, Free X w (fun w' => Rd w' v sls) ∧ sls.length = a.length ∧ ∀ (i : Nat) (s : Value) (l : List Pt), sls[i]? = some s → a[i]? = some l → RdLF X w s l
theorem RdLF.to {X Y Z : Nat → Prop} {w w' : World} {s : Value} {l : List Pt} (h : RdLF X w s l) (ha : Agree Z w w') (hz : ∀ i, i < w.heap.size → Z i → X i) (hy : ∀ i, i < w.heap.size → Y i → X i) : RdLF Y w' s l := by
  obtain ⟨css, h⟩ := h
  exact ⟨css, h.to ha hz hy⟩
theorem RdLF.mono {X Y : Nat → Prop} {w : World} {s : Value} {l : List Pt} (h : RdLF X w s l) (hy : ∀ i, i < w.heap.size → Y i → X i) : RdLF Y w s l := by
  obtain ⟨css, h⟩ := h
  exact ⟨css, h.mono hy⟩
theorem RdNF.to {X Y Z : Nat → Prop} {w w' : World} {v : Value} {a : List (List Pt)} (h : RdNF X w v a) (ha : Agree Z w w') (hz : ∀ i, i < w.heap.size → Z i → X i) (hy : ∀ i, i < w.heap.size → Y i → X i) : RdNF Y w' v a := by
  obtain ⟨sls, h1, h2, h3⟩ := h
  exact ⟨sls, h1.to ha hz hy, h2, fun i s l hs hl => (h3 i s l hs hl).to ha hz hy⟩
theorem RdNF.mono {X Y : Nat → Prop} {w : World} {v : Value} {a : List (List Pt)} (h : RdNF X w v a) (hy : ∀ i, i < w.heap.size → Y i → X i) : RdNF Y w v a := by
  obtain ⟨sls, h1, h2, h3⟩ := h
  exact ⟨sls, h1.mono hy, h2, fun i s l hs hl => (h3 i s l hs hl).mono hy⟩
theorem rdLF_shape {X : Nat → Prop} {w : World} {s : Value} {l : List Pt} (h : RdLF X w s l) : ∃ ao cap, s = .slice ao l.length cap := by
  obtain ⟨css, h⟩ := h
  obtain ⟨ao, cap, rfl⟩ := rdS_shape h.now.1
  exact ⟨ao, cap, by rw [rdTs_len h.now.2]⟩
theorem rdNF_shape {X : Nat → Prop} {w : World} {v : Value} {a : List (List Pt)} (h : RdNF X w v a) : ∃ ao cap, v = .slice ao a.length cap := by
  obtain ⟨sls, h1, h2, _⟩ := h
  obtain ⟨ao, cap, hv, _⟩ := h1.now
  exact ⟨ao, cap, by rw [← h2]; exact hv⟩
/-- The k-th of them. -/
theorem RdNF.at {X : Nat → Prop} {w : World} {ao : Option Addr} {n cap : Nat} {a : List (List Pt)} (h : RdNF X w (.slice ao n cap) a) {k : Nat} {l : List Pt} (hk : a[k]? = some l) :
    ∃ b off sa sc, ao = some ⟨b, off, none⟩ ∧ w.cell? ⟨b, off + k, none⟩ = some (.slice sa l.length sc) ∧ RdLF X w (.slice sa l.length sc) l := by
  obtain ⟨sls, h1, h2, h3⟩ := h
  obtain ⟨ao', cap', hv, _, hc⟩ := h1.now
  cases hv
  have hlt : k < sls.length := by rw [h2]; exact (List.getElem?_eq_some_iff.1 hk).1
  obtain ⟨b, off, rfl, hcell⟩ := hc (by omega)
  have h4 := h3 k _ l (List.getElem?_eq_getElem hlt) hk
  obtain ⟨sa, sc, h5⟩ := rdLF_shape h4
  refine ⟨b, off, sa, sc, rfl, ?_, h5 ▸ h4⟩
  rw [hcell k hlt, List.getD_eq_getElem?_getD, List.getElem?_eq_getElem hlt, ← h5]
  rfl
theorem rdT1_ones {w : World} {p : Pt} {cs : List Value} (h : RdT1 w p cs) : cs.length = 8 ∧ ∀ u ∈ cs, u.oneCell' = true := by
  obtain ⟨k, c, o, v, l⟩ := p
  unfold RdT1 at h
  obtain ⟨s, ls, css, rfl, h1, h2, _⟩ := h
  obtain ⟨a, m, h3⟩ := rd_shape8 h1.1
  obtain ⟨a2, m2, h4⟩ := rdS_shape h2
  simp only at h3
  rw [h3, h4]
  exact ⟨rfl, by simp [cellsP, Value.oneCell']⟩
theorem rdTs_ones {w : World} : ∀ {l : List Pt} {css : List (List Value)}, RdTs w l css → Ones 8 css
  | [], [], _ => fun t ht => by cases ht
  | p :: r, c :: t, h => fun u hu => by
    unfold RdTs at h
    rcases List.mem_cons.1 hu with h1 | h1
    · rw [h1]; exact rdT1_ones h.1
    · exact rdTs_ones h.2 u h1
  | [], _ :: _, h => by unfold RdTs at h; exact h.elim
  | _ :: _, [], h => by unfold RdTs at h; exact h.elim
theorem RdTs.append {w : World} {l' : List Pt} {css' : List (List Value)} (k : RdTs w l' css') : ∀ {l : List Pt} {css : List (List Value)}, RdTs w l css → RdTs w (l ++ l') (css ++ css')
  | [], [], _ => k
  | p :: r, c :: t, h => by
    unfold RdTs at h
    show RdTs w (p :: (r ++ l')) (c :: (t ++ css'))
    unfold RdTs
    exact ⟨h.1, RdTs.append k h.2⟩
  | [], _ :: _, h => by unfold RdTs at h; exact h.elim
  | _ :: _, [], h => by unfold RdTs at h; exact h.elim

theorem elmAnds : Elm Try.prog 112 29 1 24 := by
  have h : (Try.prog.info? 29).map (fun i => (i.zero, i.size, i.bytes)) = some (some (.slice none 0 0), 1, 24) := by kernel_rfl
  cases hq : Try.prog.info? 29 with
  | none => rw [hq] at h; cases h
  | some i =>
    rw [hq] at h
    simp only [Option.map_some, Option.some.injEq, Prod.mk.injEq] at h
    exact ⟨Try.underlying112, ⟨i, _, hq, h.1, h.2.1, h.2.2, rfl⟩, by decide, by decide⟩

/-- What a call that hands back such lists, or none, comes to. -/
def RetN (X : Nat → Prop) (w : World) (r : Option (List (List Pt))) (e : Ending) (w' : World) : Prop :=
  match r with
  | none => e = .returned (.tuple #[.slice none 0 0, .bool false])
  | some o => ∃ v, e = .returned (.tuple #[v, .bool true]) ∧ RdNF (fun b => X b ∧ b < w.heap.size) w' v o

/-- A row of one's own whose elements are such lists. -/
def OwnN (X : Nat → Prop) (B : Nat) (w : World) (v : Value) (o : List (List Pt)) : Prop :=
  ∃ sls, w.ownsRow B 29 1 v o.length sls ∧ sls.length = o.length ∧ ∀ (i : Nat) (s : Value) (l : List Pt), sls[i]? = some s → o[i]? = some l → RdLF (fun b => (X b ∧ b < B) ∨ v.ownBlock = some b) w s l
theorem ownN_nil (X : Nat → Prop) (B : Nat) (w : World) : OwnN X B w (.slice none 0 0) [] := ⟨[], World.ownsRow_nil .., rfl, fun i s l h => by simp at h⟩
theorem OwnN.rd {X : Nat → Prop} {B : Nat} {w : World} {v : Value} {o : List (List Pt)} (h : OwnN X B w v o) : RdNF (fun b => X b ∧ b < B) w v o := by
  obtain ⟨sls, h1, h2, h3⟩ := h
  refine ⟨sls, fun w' ha => ?_, h2, fun i s l hs hl => (h3 i s l hs hl).mono fun b _ hb => .inl hb⟩
  refine Rd.of_owns (ownsRow_agree h1 ha fun b hb hx => ?_)
  have := (h1.lt b hb).1
  omega

theorem ownN_push {X : Nat → Prop} {B : Nat} {wr w2 w4 : World} {o3 : Obj} {v v4 s : Value} {o : List (List Pt)} {sls : List Value} {l : List Pt} {css : List (List Value)}
    (hown : wr.ownsRow B 29 1 v o.length sls) (hlen : sls.length = o.length) (hel : ∀ (i : Nat) (s : Value) (l : List Pt), sls[i]? = some s → o[i]? = some l → RdLF (fun b => (X b ∧ b < B) ∨ v.ownBlock = some b) wr s l)
    (hag : Below wr.heap.size wr w2) {K : Nat} (hK : wr.heap.size ≤ K) (hs : w2.ownsRow K 31 8 s css.length css.flatten) (hon : Ones 8 css)
    (hg : (w2.alloc o3).grownBy w4 v.ownBlock) (hnew : ∀ g, v4.ownBlock = some g → v.ownBlock = some g ∨ g = (w2.alloc o3).heap.size)
    (h4 : w4.ownsRow B 29 1 v4 (o.length + 1) (sls ++ [s])) (hB : B ≤ wr.heap.size)
    (hl : Free (fun b => X b ∨ B ≤ b) wr (fun w' => RdTs w' l css)) : OwnN X B w4 v4 (o ++ [l]) := by
  have hsz : (w2.alloc o3).heap.size = w2.heap.size + 1 := by simp
  have hag4 : Agree (fun b => v.ownBlock = some b) wr w4 := ((Agree.refl _ wr).thenBelow hag).alloc o3 |>.thenGrown hg fun i _ h => h
  have hold : ∀ b, v.ownBlock = some b → B ≤ b ∧ b < wr.heap.size := fun b hb => hown.lt b hb
  have hsb : ∀ b, s.ownBlock = some b → wr.heap.size ≤ b ∧ b < w2.heap.size := fun b hb => ⟨Nat.le_trans hK (hs.lt b hb).1, (hs.lt b hb).2⟩
  have hs4 : w4.ownsRow K 31 8 s css.length css.flatten := by
    refine ownsRow_agree (hs.alloc o3) (agree_grown hg) fun b hb hx => ?_
    have h1 := hold b hx
    have h2 := hsb b hb
    omega
  refine ⟨sls ++ [s], by rw [List.length_append]; exact h4, by rw [List.length_append, List.length_append, hlen]; rfl, fun i t lt hi hli => ?_⟩
  have hY : ∀ b, b < wr.heap.size → ((X b ∧ b < B) ∨ v4.ownBlock = some b) → ((X b ∧ b < B) ∨ v.ownBlock = some b) := fun b hb h => by
    rcases h with h | h
    · exact .inl h
    · rcases hnew b h with h | h
      · exact .inr h
      · have := hag.size; omega
  by_cases hlt : i < sls.length
  · rw [List.getElem?_append_left hlt] at hi
    rw [List.getElem?_append_left (by rw [← hlen]; exact hlt)] at hli
    exact (hel i t lt hi hli).to hag4 (fun b _ h => .inr h) hY
  · have hi1 : i = sls.length := by
      have := (List.getElem?_eq_some_iff.1 hi).1
      rw [List.length_append] at this
      simp at this
      omega
    rw [List.getElem?_append_right (by omega), hi1, Nat.sub_self] at hi
    rw [List.getElem?_append_right (by rw [← hlen]; omega), ← hlen, hi1, Nat.sub_self] at hli
    cases hi
    cases hli
    refine ⟨css, fun w5 h5 => ⟨?_, ?_⟩⟩
    · refine rdS_own (ownsRow_agree hs4 h5 fun b hb hx => ?_) rfl fun t ht => (hon t ht).1
      have h2 := hsb b hb
      rcases hx with hx | hx
      · have := hx.2; omega
      · rcases hnew b hx with h | h
        · have := hold b h; omega
        · omega
    · refine hl w5 ((hag4.mono fun b hb h => .inr (hold b h).1).then h5 fun b hb h => ?_)
      rcases h with h | h
      · exact .inl h.1
      · rcases hnew b h with h | h
        · exact .inr (hold b h).1
        · have := hag.size; omega

theorem prodL_succ {a b : List (List Pt)} {q : Nat} {x : List Pt} (h : a[q]? = some x) : prodL (a.take (q + 1)) b = prodL (a.take q) b ++ b.map (fun y => x ++ y) := by
  unfold prodL
  rw [List.take_add_one, h, List.flatMap_append]
  simp
theorem prodB_succ {b : List (List Pt)} {j : Nat} {x y : List Pt} (h : b[j]? = some y) : (b.take (j + 1)).map (fun y => x ++ y) = (b.take j).map (fun y => x ++ y) ++ [x ++ y] := by
  rw [List.take_add_one, h, List.map_append]
  simp

set_option maxRecDepth 100000 in
set_option maxHeartbeats 8000000 in
theorem times_any (X : Nat → Prop) (va vb : Value) (a b : List (List Pt)) (w : World) (ha : RdNF X w va a) (hb : RdNF X w vb b) (sa : SmallN a) (sb : SmallN b) :
    Calls Try.prog 166 #[va, vb] w fun e w' => RetN X w (timesN a b) e w' ∧ Below w.heap.size w w' := by
  obtain ⟨aa, ac, rfl⟩ := rdNF_shape ha
  obtain ⟨ba, bc, rfl⟩ := rdNF_shape hb
  obtain ⟨n, hN⟩ : ∃ n, n = a.length := ⟨_, rfl⟩
  obtain ⟨m, hM⟩ : ∃ m, m = b.length := ⟨_, rfl⟩
  rw [← hN] at ha ⊢
  rw [← hM] at hb ⊢
  have hn32 : n ≤ 32 := by rw [hN]; exact sa.1
  have hm32 : m ≤ 32 := by rw [hM]; exact sb.1
  have HN := Lib.hid hN
  have HM := Lib.hid hM
  have HA := Lib.hid ha
  have HB := Lib.hid hb
  have HSA := Lib.hid sa
  have HSB := Lib.hid sb
  clear hN hM ha hb sa sb
  by_cases hmul : 32 < n * m
  · have HF := Lib.hid (show RetN X w (timesN a b) (.returned (.tuple #[.slice none 0 0, .bool false])) w by
      unfold timesN
      rw [if_pos (by rw [← HN.out, ← HM.out]; exact hmul)]
      rfl)
    have q1 : decide ((32 : Int) < (n : Int) * (m : Int)) = true := by rw [decide_eq_true_iff]; exact_mod_cast hmul
    have hb1 : n * m ≤ 1024 := Nat.mul_le_mul hn32 hm32
    have hb2 : (n : Int) * (m : Int) ≤ 1024 := by exact_mod_cast hb1
    have hb3 : (0 : Int) ≤ (n : Int) * (m : Int) := by exact_mod_cast Nat.zero_le _
    clear hmul hb1
    go_enter Try.func166, Try.ntmps166
    go_wp2_with fail
    go_ret2
    exact ⟨HF.out, Below.refl _ _⟩
  · have q1 : decide ((32 : Int) < (n : Int) * (m : Int)) = false := by rw [decide_eq_false_iff_not]; exact_mod_cast hmul
    have hb2 : (n : Int) * (m : Int) ≤ 32 := by have h : n * m ≤ 32 := by omega
                                                exact_mod_cast h
    have hb3 : (0 : Int) ≤ (n : Int) * (m : Int) := by exact_mod_cast Nat.zero_le _
    have HMUL := Lib.hid (show ¬ 32 < a.length * b.length by rw [← HN.out, ← HM.out]; exact hmul)
    clear hmul
    go_enter Try.func166, Try.ntmps166
    go_wp2_with fail
    go_loopw [6, 19] (fun s i wr => ∃ q : Nat, ∃ ao k cap, q ≤ n ∧ i = .int .i64 (q : Int) ∧ s = .slice ao k cap ∧ k = (prodL (a.take q) b).length ∧ OwnN X w.heap.size wr (.slice ao k cap) (prodL (a.take q) b) ∧ (a.take q).all (fun x => fitsB x b) = true ∧ Below w.heap.size w wr) (fun _ i _ => n - (intOf i).toNat)
    case atStart => exact ⟨0, none, 0, 0, Nat.zero_le _, rfl, rfl, by simp [prodL], by simpa [prodL] using ownN_nil X w.heap.size w, by simp, Below.refl _ _⟩
    case round =>
      obtain ⟨q, ao, k, cap, hq, rfl, rfl, hk, hown, hall, hbel⟩ := hrel
      have HK := Lib.hid hk
      have HO := Lib.hid hown
      have HALL := Lib.hid hall
      have HBR := Lib.hid hbel
      clear hk hown hall hbel
      by_cases hlt : q < n
      · obtain ⟨x, hx⟩ : ∃ x, a[q]? = some x := ⟨_, List.getElem?_eq_getElem (by rw [← HN.out]; exact hlt)⟩
        have HX := Lib.hid hx
        obtain ⟨xb, xo, xa, xc, rfl, hxc0, hxr⟩ := HA.out.at hx
        have hxc := (HBR.out.cell (p := ⟨xb, xo + q, none⟩) (World.block_lt_of_cell? w _ hxc0)).trans hxc0
        clear hxc0
        obtain ⟨lx, hlx⟩ : ∃ lx, lx = x.length := ⟨_, rfl⟩
        rw [← hlx] at hxc hxr
        have HLX := Lib.hid hlx
        have hlx32 : lx ≤ 32 := by rw [hlx]; exact HSA.out.2 x (List.mem_of_getElem? hx)
        have HXR := Lib.hid hxr
        clear hx hlx hxr
        go_wp2_with fail
        go_loopw [6, 25] (fun s j wj => ∃ p : Nat, ∃ ao k cap, p ≤ m ∧ j = .int .i64 (p : Int) ∧ s = .slice ao k cap ∧ k = (prodL (a.take q) b ++ (b.take p).map fun y => x ++ y).length ∧ OwnN X w.heap.size wj (.slice ao k cap) (prodL (a.take q) b ++ (b.take p).map fun y => x ++ y) ∧ fitsB x (b.take p) = true ∧ Below w.heap.size w wj) (fun _ j _ => m - (intOf j).toNat)
        case atStart => exact ⟨0, ao, k, cap, Nat.zero_le _, rfl, rfl, by simpa using HK.out, by simpa using HO.out, by simp [fitsB], HBR.out⟩
        case round =>
          obtain ⟨p, ao1, k1, cap1, hp, rfl, rfl, hk1, hown1, hfit1, hbel1⟩ := hrel
          have HK1 := Lib.hid hk1
          have HO1 := Lib.hid hown1
          have HF1 := Lib.hid hfit1
          have HB1 := Lib.hid hbel1
          clear hk1 hown1 hfit1 hbel1
          have hag1 := agree_below HB1.out HB1.out.size
          by_cases hlt1 : p < m
          · obtain ⟨y, hy⟩ : ∃ y, b[p]? = some y := ⟨_, List.getElem?_eq_getElem (by rw [← HM.out]; exact hlt1)⟩
            obtain ⟨yb, yo, ya, yc, rfl, hyc0, hyr⟩ := HB.out.at hy
            have hyc := (HB1.out.cell (p := ⟨yb, yo + p, none⟩) (World.block_lt_of_cell? w _ hyc0)).trans hyc0
            obtain ⟨ly, hly⟩ : ∃ ly, ly = y.length := ⟨_, rfl⟩
            rw [← hly] at hyc hyr
            have hly32 : ly ≤ 32 := by rw [hly]; exact HSB.out.2 y (List.mem_of_getElem? hy)
            have HY := Lib.hid hy
            have HLY := Lib.hid hly
            obtain ⟨cx, hcx⟩ := HXR.out.to (Y := fun b => X b ∨ w.heap.size ≤ b) hag1 (fun i h1 h2 => by omega) (fun i h1 h2 => h2.elim id fun h => by omega)
            obtain ⟨cy, hcy⟩ := hyr.to (Y := fun b => X b ∨ w.heap.size ≤ b) hag1 (fun i h1 h2 => by omega) (fun i h1 h2 => h2.elim id fun h => by omega)
            have HCX := Lib.hid hcx
            have HCY := Lib.hid hcy
            clear hy hly hyr hyc0 hcx hcy hag1
            by_cases hfit : lx + ly ≤ 32
            · have q2 : decide ((32 : Int) < (lx : Int) + (ly : Int)) = false := by rw [decide_eq_false_iff_not]; omega
              have HFN := Lib.hid (show fitsB x (b.take (p + 1)) = true by
                unfold fitsB
                rw [List.take_add_one, HY.out, List.all_append]
                have h1 := HF1.out
                unfold fitsB at h1
                rw [h1]
                simp [← HLX.out, ← HLY.out, hfit])
              clear hfit
              have hcxl : cx.length = lx := by rw [rdTs_len HCX.out.now.2, HLX.out]
              have hcyl : cy.length = ly := by rw [rdTs_len HCY.out.now.2, HLY.out]
              have HCL := Lib.hid (show (cx ++ cy).length = lx + ly by rw [List.length_append, hcxl, hcyl])
              have HON := Lib.hid (Ones.append (rdTs_ones HCX.out.now.2) (rdTs_ones HCY.out.now.2))
              have hb01 := below_alloc wr (.cells #[.slice xa lx xc, .slice ya ly yc] 29)
              have HCALL := Lib.hid (show Calls Try.prog 199 #[.slice (some ⟨wr.heap.size, 0, none⟩) 2 2] (wr.alloc (.cells #[.slice xa lx xc, .slice ya ly yc] 29))
                  (fun e w2 => ∃ za zc, e = .returned (.slice za (lx + ly) zc) ∧ w2.ownsRow (wr.heap.size + 1) 31 8 (.slice za (lx + ly) zc) (cx ++ cy).length (cx ++ cy).flatten ∧ Below wr.heap.size wr w2) from by
                refine (concat_any _ [.slice xa lx xc, .slice ya ly yc] [cx, cy] _ rfl (by simp) (rd_lit wr #[.slice xa lx xc, .slice ya ly yc] _ 2 _ rfl rfl (by decide)) ?_ ?_).mono ?_
                · intro k s c hs hc
                  match k, hs, hc with
                  | 0, hs, hc => cases hs; cases hc; exact ⟨HCX.out.now.1.kept hb01, rdTs_ones HCX.out.now.2⟩
                  | 1, hs, hc => cases hs; cases hc; exact ⟨HCY.out.now.1.kept hb01, rdTs_ones HCY.out.now.2⟩
                  | k + 2, hs, hc => simp at hs
                · simp [hcxl, hcyl]; omega
                · rintro e w2 ⟨za, zc, rfl, h1, h2⟩
                  have e1 : [cx, cy].flatten = cx ++ cy := by simp
                  have e2 : (wr.alloc (.cells #[.slice xa lx xc, .slice ya ly yc] 29)).heap.size = wr.heap.size + 1 := by simp
                  rw [e1, HCL.out, e2] at h1
                  refine ⟨za, zc, by rw [e1, HCL.out], by rw [HCL.out]; exact h1, below_then hb01 h2⟩)
              clear hcxl hcyl hb01
              go_wp2_with fail
              refine HCALL.out.mono ?_
              rintro e w2 ⟨za, zc, rfl, hown2, hbel2⟩
              obtain ⟨sls, ho1, ho2, ho3⟩ := HO1.out
              have HOWN := Lib.hid ((ownsRow_agree (X := fun _ => False) ho1 ⟨hbel2.os, hbel2.tape, hbel2.output, hbel2.size, fun i hi _ => hbel2.block i hi⟩ (fun _ _ h => h)).alloc (.cells #[.slice za (lx + ly) zc] 29))
              rw [← HK1.out] at HOWN
              have HO1S := Lib.hid ho1
              have HO2S := Lib.hid ho2
              have HO3S := Lib.hid ho3
              have HOW2 := Lib.hid hown2
              have HBE2 := Lib.hid hbel2
              have hk1 : k1 ≤ 1024 + 32 := by
                rw [HK1.out, List.length_append, prodL_len, List.length_map, List.length_take, List.length_take, ← HM.out, ← HN.out]
                have : min q n * m ≤ 32 * 32 := Nat.mul_le_mul (by omega) hm32
                omega
              have hsz2 := Lib.hid (show w.heap.size ≤ (w2.alloc (.cells #[.slice za (lx + ly) zc] 29)).heap.size by have := HB1.out.size; have := hbel2.size; simp; omega)
              have HON1 := Lib.hid (show Ones 1 [[Value.slice za (lx + ly) zc]] from fun t ht => by rw [List.mem_singleton.1 ht]; exact ⟨rfl, fun u hu => by rw [List.mem_singleton.1 hu]; rfl⟩)
              have HRL := Lib.hid (rdS_lit w2 #[.slice za (lx + ly) zc] 29 1 rfl)
              clear ho1 ho2 ho3 hown2 hbel2
              go_wp2_with (at_builtin; go_must (refine wpList_append_k elmAnds rfl _ _ rfl w.heap.size _ _ _ rfl HOWN.out _ [[.slice za (lx + ly) zc]] rfl HRL.out HON1.out (by simp; omega) hsz2.out (k1 + 1) rfl ?_); intro ao4 cap4 w4 hown4 hgrow4 hnew4; have HO4 := Lib.hid hown4; have HG4 := Lib.hid hgrow4; have HN4 := Lib.hid hnew4; clear hown4 hgrow4 hnew4)
              go_roundw
              case rel =>
                have hpush := ownN_push (X := X) (B := w.heap.size) HO1S.out HO2S.out HO3S.out HBE2.out (Nat.le_succ _) (by have h := HOW2.out; rw [HCL.out] at h ⊢; exact h) HON.out HG4.out HN4.out (by rw [← HK1.out]; exact HO4.out) HB1.out.size (HCX.out.and HCY.out |>.imp fun w' h => RdTs.append h.2.2 h.1.2)
                have hbs := prodB_succ (x := x) HY.out
                refine ⟨p + 1, ao4, k1 + 1, cap4, by omega, by go_num, rfl, ?_, ?_, HFN.out, ?_⟩
                · rw [hbs, ← List.append_assoc, List.length_append, ← HK1.out]; rfl
                · rw [hbs, ← List.append_assoc]; exact hpush
                · exact (HB1.out.trans (HBE2.out.mono HB1.out.size)).alloc (Nat.le_trans HB1.out.size HBE2.out.size) _ |>.grown HG4.out hsz2.out (own_base HOWN.out)
              case measure => simp [intOf]; omega
            · have q2 : decide ((32 : Int) < (lx : Int) + (ly : Int)) = true := by rw [decide_eq_true_iff]; omega
              have HF := Lib.hid (show RetN X w (timesN a b) (.returned (.tuple #[.slice none 0 0, .bool false])) wr by
                unfold timesN
                rw [if_neg HMUL.out, if_neg]
                · rfl
                · intro h
                  rw [List.all_eq_true] at h
                  have h1 := h x (List.mem_of_getElem? HX.out)
                  unfold fitsB at h1
                  rw [List.all_eq_true] at h1
                  have h2 := of_decide_eq_true (h1 y (List.mem_of_getElem? HY.out))
                  rw [← HLX.out, ← HLY.out] at h2
                  exact hfit h2)
              clear hfit
              go_wp2_with fail
              go_ret2
              exact ⟨HF.out, HB1.out⟩
          · have hpm : p = m := by omega
            have htk : b.take p = b := List.take_of_length_le (by rw [← HM.out, hpm]; exact Nat.le_refl _)
            have hps := prodL_succ (b := b) HX.out
            have HRN := Lib.hid (show k1 = (prodL (a.take (q + 1)) b).length ∧ OwnN X w.heap.size wr (.slice ao1 k1 cap1) (prodL (a.take (q + 1)) b) ∧ (a.take (q + 1)).all (fun x => fitsB x b) = true ∧ Below w.heap.size w wr by
              have h1 := HK1.out
              have h2 := HO1.out
              have h3 := HF1.out
              rw [htk] at h1 h2 h3
              rw [hps]
              refine ⟨h1, h2, ?_, HB1.out⟩
              rw [List.take_add_one, HX.out, List.all_append, HALL.out]
              simp [h3])
            clear hpm htk hps hag1
            go_wp2_with fail
            go_roundw
            case rel => exact ⟨q + 1, ao1, k1, cap1, by omega, by go_num, rfl, HRN.out⟩
            case measure => simp [intOf]; omega
      · have hqn : q = n := by omega
        have htk : a.take q = a := List.take_of_length_le (by rw [← HN.out, hqn]; exact Nat.le_refl _)
        have HF := Lib.hid (show RetN X w (timesN a b) (.returned (.tuple #[.slice ao k cap, .bool true])) wr by
          have h1 := HALL.out
          have h2 := HO.out
          rw [htk] at h1 h2
          unfold timesN
          rw [if_neg HMUL.out, if_pos h1]
          exact ⟨_, rfl, h2.rd⟩)
        clear hqn htk
        go_wp2_with fail
        go_ret2
        exact ⟨HF.out, HBR.out⟩

end Go.Proofs.Ytfmkalnnpddefaa
