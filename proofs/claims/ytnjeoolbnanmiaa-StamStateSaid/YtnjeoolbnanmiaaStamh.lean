/-
  Plain facts of StamEnds: those that a look hangs on are marked as committed.
-/
import Derived.Test.YtnjeoolbnanmiaaStamg
namespace Go.Proofs.Ytnjeoolbnanmiaa
set_option linter.unusedVariables false
open Go.RowKit

def mark (O : List Int) (t : Ti) : Ti := if t.i ∈ O then ⟨t.i, 3, t.b, t.e⟩ else t
theorem mark_i (O : List Int) (t : Ti) : (mark O t).i = t.i := by unfold mark; split <;> rfl
theorem mark_e (O : List Int) (t : Ti) : (mark O t).e = t.e := by unfold mark; split <;> rfl
theorem mark_nil (t : Ti) : mark [] t = t := by unfold mark; rw [if_neg (by simp)]
def curL (L : List Ti) (O : List Int) (k : Nat) : List Ti := (L.take k).map (mark O) ++ L.drop k
def curM (L : List Ti) (O : List Int) (k : Nat) (t : Ti) (m : Nat) : List Ti := (L.take k).map (mark O) ++ mark (O.take m) t :: L.drop (k + 1)

theorem drop_at {L : List Ti} {k : Nat} {t : Ti} (ht : L[k]? = some t) : L.drop k = t :: L.drop (k + 1) := by
  obtain ⟨hk, rfl⟩ := List.getElem?_eq_some_iff.1 ht
  exact List.drop_eq_getElem_cons hk
theorem curL_zero (L : List Ti) (O : List Int) : curL L O 0 = L := by unfold curL; simp
theorem curL_end (L : List Ti) (O : List Int) : curL L O L.length = L.map (mark O) := by unfold curL; simp
theorem curM_zero {L : List Ti} (O : List Int) {k : Nat} {t : Ti} (ht : L[k]? = some t) : curM L O k t 0 = curL L O k := by
  unfold curM curL
  rw [List.take_zero, mark_nil, drop_at ht]
theorem curM_end {L : List Ti} (O : List Int) {k : Nat} {t : Ti} (ht : L[k]? = some t) : curM L O k t O.length = curL L O (k + 1) := by
  unfold curM curL
  rw [List.take_length, List.take_add_one, ht]
  simp
theorem curM_len {L : List Ti} (O : List Int) {k : Nat} {t : Ti} (ht : L[k]? = some t) (m : Nat) : (curM L O k t m).length = L.length := by
  have hk : k < L.length := (List.getElem?_eq_some_iff.1 ht).1
  unfold curM
  simp
  omega
theorem curM_at {L : List Ti} (O : List Int) {k : Nat} {t : Ti} (ht : L[k]? = some t) (m : Nat) : (curM L O k t m)[k]? = some (mark (O.take m) t) := by
  have hk : k < L.length := (List.getElem?_eq_some_iff.1 ht).1
  unfold curM
  rw [List.getElem?_append_right (by simp; omega)]
  simp [Nat.min_eq_left (Nat.le_of_lt hk)]
theorem curM_skip {L : List Ti} {O : List Int} {k : Nat} {t : Ti} {m : Nat} {x : Int} (hx : O[m]? = some x) (hne : t.i ≠ x) : curM L O k t (m + 1) = curM L O k t m := by
  have : mark (O.take (m + 1)) t = mark (O.take m) t := by
    unfold mark
    rw [List.take_add_one, hx]
    simp [hne]
  unfold curM
  rw [this]
theorem curM_hit {L : List Ti} {O : List Int} {k : Nat} {t : Ti} {m : Nat} {x : Int} (ht : L[k]? = some t) (hx : O[m]? = some x) (he : t.i = x) (hn : x ∉ O.take m) :
    mark (O.take m) t = t ∧ (curM L O k t m).set k ⟨t.i, 3, t.b, t.e⟩ = curM L O k t (m + 1) := by
  have hk : k < L.length := (List.getElem?_eq_some_iff.1 ht).1
  have h1 : mark (O.take m) t = t := by unfold mark; rw [if_neg (by rw [he]; exact hn)]
  have h2 : mark (O.take (m + 1)) t = ⟨t.i, 3, t.b, t.e⟩ := by
    unfold mark
    rw [if_pos (by rw [List.take_add_one, hx, he]; simp)]
  refine ⟨h1, ?_⟩
  unfold curM
  rw [h1, h2, List.set_append_right _ _ (by simp; omega)]
  simp [Nat.min_eq_left (Nat.le_of_lt hk)]
theorem not_before {O : List Int} (hO : O.Nodup) {m : Nat} {x : Int} (hx : O[m]? = some x) : x ∉ O.take m := by
  intro h
  obtain ⟨i, hi, hix⟩ := List.getElem_of_mem h
  have hm : m < O.length := (List.getElem?_eq_some_iff.1 hx).1
  have hil : i < m := by rw [List.length_take] at hi; omega
  rw [List.getElem_take] at hix
  have h2 := (List.getElem?_eq_some_iff.1 hx).2
  exact (List.pairwise_iff_getElem.1 hO) i m (by omega) hm hil (by rw [hix, h2])

theorem state_at : ∀ {L : List Ti}, L.Pairwise (fun a b => a.i < b.i) → ∀ {t : Ti}, t ∈ L → stateT L t.i = t
  | u :: r, hp, t, ht => by
    rw [List.pairwise_cons] at hp
    unfold stateT
    rcases List.mem_cons.1 ht with rfl | ht
    · rw [List.find?_cons_of_pos (by simp)]; rfl
    · have := hp.1 t ht
      rw [List.find?_cons_of_neg (by simp; omega)]
      exact state_at hp.2 ht
  | [], _, t, ht => by cases ht

theorem find_mark (O : List Int) (x : Int) : ∀ (L : List Ti), (L.map (mark O)).find? (fun t => t.i == x) = (L.find? (fun t => t.i == x)).map (mark O)
  | [] => rfl
  | u :: r => by
    rw [List.map_cons, List.find?_cons, List.find?_cons, mark_i]
    cases u.i == x
    · exact find_mark O x r
    · rfl
theorem state_mark (L : List Ti) (O : List Int) (x : Int) : (stateT (L.map (mark O)) x).e = (stateT L x).e ∧
    ((stateT (L.map (mark O)) x).s = (stateT L x).s ∨ x ∈ O ∧ (stateT (L.map (mark O)) x).s = 3) ∧ (x ∈ O → (stateT L x).s ≠ 0 → (stateT (L.map (mark O)) x).s = 3) := by
  unfold stateT
  rw [find_mark]
  cases h : L.find? (fun t => t.i == x) with
  | none => exact ⟨rfl, .inl rfl, fun _ h => absurd rfl h⟩
  | some t =>
    have hi : t.i = x := by have := List.find?_some h; simpa using this
    refine ⟨mark_e O t, ?_, fun hx _ => ?_⟩
    · show (mark O t).s = t.s ∨ x ∈ O ∧ (mark O t).s = 3
      unfold mark
      by_cases ho : t.i ∈ O
      · rw [if_pos ho]; exact .inr ⟨hi ▸ ho, rfl⟩
      · rw [if_neg ho]; exact .inl rfl
    · show (mark O t).s = 3
      unfold mark
      rw [if_pos (hi ▸ hx)]

theorem said_hang (l : List Ti) (x y t : Int) (h : (saidT l x y t).2 ≠ 0) : (saidT l x y t).2 = x ∧ x ≠ 0 ∧ (stateT l x).s = 2 ∧ (stateT l x).e ≤ t := by
  unfold saidT at h ⊢
  by_cases h0 : x = 0
  · rw [if_pos h0] at h; exact absurd rfl h
  · rw [if_neg h0] at h ⊢
    by_cases h2 : (stateT l x).s = 2 ∧ (stateT l x).e ≤ t
    · rw [if_pos h2]; exact ⟨rfl, h0, h2⟩
    · rw [if_neg h2] at h
      by_cases h3 : (stateT l x).s = 3 ∧ (stateT l x).e ≤ t
      · rw [if_pos h3] at h; exact absurd rfl h
      · rw [if_neg h3] at h; exact absurd rfl h
theorem end_hang (l : List Ti) (x y t : Int) (h : (endT l x y t).2 ≠ 0) : (endT l x y t).2 = x ∧ x ≠ 0 ∧ (stateT l x).s = 2 ∧ (stateT l x).e ≤ t := by
  unfold endT at h ⊢
  split
  · rename_i hn; rw [if_pos hn] at h; exact absurd rfl h
  · rename_i hn; rw [if_neg hn] at h; exact said_hang l x y t h
theorem hang_mem (a b x : Int) (h : x ∈ hangL a b) : x ≠ 0 ∧ (x = a ∨ x = b) := by
  unfold hangL at h
  by_cases ha : a = 0 <;> by_cases hb : b = 0 <;> simp only [ha, hb, if_true, if_false] at h
  · cases h
  · have : x = b := by simpa using h
    exact ⟨by rw [this]; exact hb, .inr this⟩
  · have : x = a := by simpa using h
    exact ⟨by rw [this]; exact ha, .inl this⟩
  · by_cases he : a = b
    · rw [if_pos he] at h
      have : x = a := by simpa using h
      exact ⟨by rw [this]; exact ha, .inl this⟩
    · rw [if_neg he] at h
      by_cases hl : a < b
      · rw [if_pos hl] at h
        rcases (by simpa using h : x = a ∨ x = b) with h | h
        · exact ⟨by rw [h]; exact ha, .inl h⟩
        · exact ⟨by rw [h]; exact hb, .inr h⟩
      · rw [if_neg hl] at h
        rcases (by simpa using h : x = b ∨ x = a) with h | h
        · exact ⟨by rw [h]; exact hb, .inr h⟩
        · exact ⟨by rw [h]; exact ha, .inl h⟩
theorem mem_hang (a b : Int) : (a ≠ 0 → a ∈ hangL a b) ∧ (b ≠ 0 → b ∈ hangL a b) := by
  unfold hangL
  by_cases ha : a = 0 <;> by_cases hb : b = 0 <;> by_cases he : a = b <;> by_cases hl : a < b <;> simp [ha, hb, he, hl]
theorem hang_nodup (a b : Int) : (hangL a b).Nodup := by
  unfold hangL
  repeat' split
  all_goals simp
  all_goals omega

/-- Those that a look hangs on. -/
theorem sees_on (l : List Ti) (bx b ex e t : Int) : (seesT l bx b ex e 0 t).2.Nodup ∧ ∀ x ∈ (seesT l bx b ex e 0 t).2, (x = bx ∨ x = ex) ∧ x ≠ 0 ∧ (stateT l x).s = 2 ∧ (stateT l x).e ≤ t := by
  rw [sees_zero]
  unfold thereT
  split
  · refine ⟨hang_nodup _ _, fun x hx => ?_⟩
    obtain ⟨h0, h1 | h1⟩ := hang_mem _ _ _ hx
    · have h2 := said_hang l bx b t (by rw [← h1]; exact h0)
      rw [h2.1] at h1
      rw [h1]
      exact ⟨.inl rfl, h2.2⟩
    · have h2 := end_hang l ex e t (by rw [← h1]; exact h0)
      rw [h2.1] at h1
      rw [h1]
      exact ⟨.inr rfl, h2.2⟩
  · exact ⟨List.nodup_nil, fun x hx => by cases hx⟩

theorem sees_len (l : List Ti) (bx b ex e t : Int) : (seesT l bx b ex e 0 t).2.length ≤ 2 := by
  rw [sees_zero]
  unfold thereT hangL
  repeat' split
  all_goals simp

theorem said_again (l : List Ti) (O : List Int) (x y t : Int) (hO : x ∈ O → (stateT l x).s = 2 ∧ (stateT l x).e ≤ t) (hin : (saidT l x y t).2 ≠ 0 → x ∈ O) : saidT (l.map (mark O)) x y t = ((saidT l x y t).1, 0) := by
  obtain ⟨k1, k2, k3⟩ := state_mark l O x
  by_cases h0 : x = 0
  · unfold saidT; rw [if_pos h0, if_pos h0]
  · by_cases hx : x ∈ O
    · obtain ⟨s2, e2⟩ := hO hx
      have s3 := k3 hx (by rw [s2]; decide)
      unfold saidT
      rw [if_neg h0, if_neg h0, if_neg (by rw [s3]; intro h; exact absurd h.1 (by decide)), if_pos ⟨s3, by rw [k1]; exact e2⟩, if_pos ⟨s2, e2⟩]
    · have hz : (saidT l x y t).2 = 0 := Classical.byContradiction fun h => hx (hin h)
      have hs : (stateT (l.map (mark O)) x).s = (stateT l x).s := k2.elim id fun h => absurd h.1 hx
      have : saidT (l.map (mark O)) x y t = saidT l x y t := by unfold saidT; rw [hs, k1]
      rw [this, ← hz]
theorem end_again (l : List Ti) (O : List Int) (x y t : Int) (hO : x ∈ O → (stateT l x).s = 2 ∧ (stateT l x).e ≤ t) (hin : (endT l x y t).2 ≠ 0 → x ∈ O) : endT (l.map (mark O)) x y t = ((endT l x y t).1, 0) := by
  unfold endT at hin ⊢
  split
  · rfl
  · rename_i hn
    rw [if_neg hn] at hin
    exact said_again l O x y t hO hin

/-- When all that a look hangs on commit, it sees the same, and hangs on nobody. -/
theorem sees_again (l : List Ti) (bx b ex e t : Int) : seesT (l.map (mark (seesT l bx b ex e 0 t).2)) bx b ex e 0 t = ((seesT l bx b ex e 0 t).1, []) := by
  have hon := (sees_on l bx b ex e t).2
  by_cases hb : (saidT l bx b t).1 = true
  · have e1 : seesT l bx b ex e 0 t = (!(endT l ex e t).1, hangL (saidT l bx b t).2 (endT l ex e t).2) := by rw [sees_zero]; unfold thereT; rw [if_pos hb]
    have h1 : saidT (l.map (mark (seesT l bx b ex e 0 t).2)) bx b t = ((saidT l bx b t).1, 0) := said_again l _ bx b t (fun h => (hon _ h).2.2) fun h => by
      have := said_hang l bx b t h
      rw [e1]
      exact (congrArg (fun z => z ∈ hangL (saidT l bx b t).2 (endT l ex e t).2) this.1).mp ((mem_hang _ _).1 h)
    have h2 : endT (l.map (mark (seesT l bx b ex e 0 t).2)) ex e t = ((endT l ex e t).1, 0) := end_again l _ ex e t (fun h => (hon _ h).2.2) fun h => by
      have := end_hang l ex e t h
      rw [e1]
      exact (congrArg (fun z => z ∈ hangL (saidT l bx b t).2 (endT l ex e t).2) this.1).mp ((mem_hang _ _).2 h)
    rw [sees_zero, h1, h2]
    unfold thereT
    simp only
    rw [if_pos hb, e1]
    rfl
  · have e1 : seesT l bx b ex e 0 t = (false, []) := by rw [sees_zero]; unfold thereT; rw [if_neg hb]
    rw [e1]
    have : l.map (mark []) = l := by rw [show mark [] = id from funext mark_nil]; simp
    rw [this, e1]

theorem own_below {B : Nat} {E : TypeId} {sz n : Nat} {v : Value} {xs : List Value} {a b : World} (h : a.ownsRow B E sz v n xs) (hb : Below a.heap.size a b) : b.ownsRow B E sz v n xs :=
  h.kept (row := none) ⟨hb.os, hb.tape, hb.output, hb.size, fun i hi _ => hb.block i hi⟩ (by cases v.ownBlock with | none => exact .inl rfl | some g => exact .inr (by simp))

/-- What stands during the loops. -/
structure EInv (w : World) (W X8 : Nat) (v u1 : Value) (n : Nat) (O : List Int) (bx b ex e : Int) (l : List Ti) (wr : World) : Prop where
  own : wr.ownsRow w.heap.size 26 4 v n (flatI l)
  on : Canon.RdI W wr u1 O
  row : wr.heap[X8]? = some (.cells #[.int .i64 bx, .int .i64 b, .int .i64 ex, .int .i64 e] 33 (0, 0))
  bel : Below w.heap.size w wr

theorem EInv.set {w : World} {W X8 : Nat} {u1 : Value} {n : Nat} {O : List Int} {bx b ex e : Int} {l : List Ti} {wr : World} {gg cap k : Nat} {t : Ti} (h : EInv w W X8 (.slice (some ⟨gg, 0, none⟩) n cap) u1 n O bx b ex e l wr)
    (hg : gg < W) (hX : X8 ≠ gg) (ht : l[k]? = some t) :
    EInv w W X8 (.slice (some ⟨gg, 0, none⟩) n cap) u1 n O bx b ex e (l.set k ⟨t.i, 3, t.b, t.e⟩) (wr.setCell ⟨gg, k * 4 + 1, none⟩ (.int .i64 3)) := by
  have hst := h.own.stored (k * 4 + 1) (.int .i64 3)
  refine ⟨?_, ?_, ?_, h.bel.trans ((Below.refl w.heap.size wr).setCell (own_base h.own gg rfl) _)⟩
  · rw [← flatI_set l k t ⟨t.i, 3, t.b, t.e⟩ ht 1 (by decide) (.int .i64 3) rfl]
    exact hst.1
  · obtain ⟨ao, cp, hv, h1, h2, hc⟩ := h.on
    refine ⟨ao, cp, hv, h1, h2, fun hp => ?_⟩
    obtain ⟨b', off, ha, hB, hcell⟩ := hc hp
    refine ⟨b', off, ha, hB, fun i x hx => ?_⟩
    rw [World.cell?_setCell_far wr ⟨gg, k * 4 + 1, none⟩ ⟨b', off + i, none⟩ _ (show gg ≠ b' by omega)]
    exact hcell i x hx
  · rw [heap_setCell_other wr ⟨gg, k * 4 + 1, none⟩ X8 _ hX]; exact h.row

end Go.Proofs.Ytnjeoolbnanmiaa
