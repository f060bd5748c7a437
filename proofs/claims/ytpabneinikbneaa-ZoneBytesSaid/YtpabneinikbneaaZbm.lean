/-
  Rows of bytes: their zones; what may be by them. The closure of ZoneBytes.
-/
import Derived.Test.YtpabneinikbneaaZmay
import Derived.Test.YtpabneinikbneaaZof2
import Derived.Test.YtpabneinikbneaaBrows
import Derived.Test.YtpabneinikbneaaRefk
import Derived.Test.YtpabneinikbneaaNormKeys
namespace Go.Proofs.Ytpabneinikbneaa
set_option linter.unusedVariables false
set_option linter.unusedSimpArgs false
open Go.RowKit


def bV (b : List Nat) : Vc := ⟨false, 2, 0, b⟩
def minS (o : Option (List Nat)) (r : List Nat) : Option (List Nat) := match o with
  | none => some r
  | some m => if cmpB r m < 0 then some r else some m
def maxS (o : Option (List Nat)) (r : List Nat) : Option (List Nat) := match o with
  | none => some r
  | some m => if 0 < cmpB r m then some r else some m
def minO (l : List (List Nat)) : Option (List Nat) := l.foldl minS none
def maxO (l : List (List Nat)) : Option (List Nat) := l.foldl maxS none
theorem minO_snoc (l : List (List Nat)) (r : List Nat) : minO (l ++ [r]) = minS (minO l) r := by unfold minO; rw [List.foldl_append]; rfl
theorem maxO_snoc (l : List (List Nat)) (r : List Nat) : maxO (l ++ [r]) = maxS (maxO l) r := by unfold maxO; rw [List.foldl_append]; rfl
def vO : Option (List Nat) → Vc
  | none => noneV 2
  | some m => bV m
theorem stepB (o1 o2 : Option (List Nat)) (r : List Nat) (row : List Vc) (h : row[1]? = some (bV r)) : stepT 1 ⟨0, vO o1, vO o2⟩ row = ⟨0, vO (minS o1 r), vO (maxS o2 r)⟩ := by
  unfold stepT
  rw [h]
  simp only
  unfold widenT bV
  simp only [Bool.false_eq_true, if_false]
  congr 1
  · cases o1 with
    | none => simp [vO, noneV, minS, bV]
    | some m =>
      have e : cmpT ⟨false, 2, 0, r⟩ (vO (some m)) = cmpB r m := by unfold vO bV cmpT; simp
      rw [e]
      unfold minS
      simp only [vO, bV, Bool.false_eq_true, false_or]
      split <;> rfl
  · cases o2 with
    | none => simp [vO, noneV, maxS, bV]
    | some m =>
      have e : cmpT ⟨false, 2, 0, r⟩ (vO (some m)) = cmpB r m := by unfold vO bV cmpT; simp
      rw [e]
      unfold maxS
      simp only [vO, bV, Bool.false_eq_true, false_or]
      split <;> rfl
theorem foldB : ∀ (R : List (List Vc)) (l : List (List Nat)) (o1 o2 : Option (List Nat)), R.map (fun r => r[1]?) = l.map (fun b => some (bV b)) → R.foldl (stepT 1) ⟨0, vO o1, vO o2⟩ = ⟨0, vO (l.foldl minS o1), vO (l.foldl maxS o2)⟩
  | [], [], o1, o2, _ => rfl
  | [], _ :: _, _, _, h => by cases h
  | _ :: _, [], _, _, h => by cases h
  | r :: R, b :: l, o1, o2, h => by
    rw [List.map_cons, List.map_cons, List.cons.injEq] at h
    rw [List.foldl_cons, stepB o1 o2 b r h.1, foldB R l _ _ h.2]
    rfl
theorem zoneB {R : List (List Vc)} {l : List (List Nat)} (h : R.map (fun r => r[1]?) = l.map (fun b => some (bV b))) : zoneT 2 1 R = ⟨0, vO (minO l), vO (maxO l)⟩ := by
  unfold zoneT
  exact foldB R l none none h
theorem minO_some : ∀ {l : List (List Nat)}, l ≠ [] → ∃ m M, minO l = some m ∧ maxO l = some M ∧ m ∈ l ∧ M ∈ l := by
  intro l
  have key : ∀ (l : List (List Nat)) (m M : List Nat), ∃ m' M', l.foldl minS (some m) = some m' ∧ l.foldl maxS (some M) = some M' ∧ (m' = m ∨ m' ∈ l) ∧ (M' = M ∨ M' ∈ l) := by
    intro l
    induction l with
    | nil => intro m M; exact ⟨m, M, rfl, rfl, .inl rfl, .inl rfl⟩
    | cons x r ih =>
      intro m M
      rw [List.foldl_cons, List.foldl_cons]
      have h1 : minS (some m) x = some (if cmpB x m < 0 then x else m) := by unfold minS; simp only; split <;> rfl
      have h2 : maxS (some M) x = some (if 0 < cmpB x M then x else M) := by unfold maxS; simp only; split <;> rfl
      rw [h1, h2]
      obtain ⟨m', M', e1, e2, e3, e4⟩ := ih (if cmpB x m < 0 then x else m) (if 0 < cmpB x M then x else M)
      refine ⟨m', M', e1, e2, ?_, ?_⟩
      · rcases e3 with e3 | e3
        · by_cases hc : cmpB x m < 0
          · rw [if_pos hc] at e3; exact .inr (by rw [e3]; exact List.mem_cons_self)
          · rw [if_neg hc] at e3; exact .inl e3
        · exact .inr (List.mem_cons_of_mem _ e3)
      · rcases e4 with e4 | e4
        · by_cases hc : 0 < cmpB x M
          · rw [if_pos hc] at e4; exact .inr (by rw [e4]; exact List.mem_cons_self)
          · rw [if_neg hc] at e4; exact .inl e4
        · exact .inr (List.mem_cons_of_mem _ e4)
  intro hne
  match l, hne with
  | x :: r, _ =>
    obtain ⟨m, M, e1, e2, e3, e4⟩ := key r x x
    exact ⟨m, M, e1, e2, e3.elim (fun h => by rw [h]; exact List.mem_cons_self) (List.mem_cons_of_mem _), e4.elim (fun h => by rw [h]; exact List.mem_cons_self) (List.mem_cons_of_mem _)⟩

/-- What may be of a comparison with bytes. -/
theorem mayB (o : Int) (b m M : List Nat) (z0 : Zt) (cnt : Int) (hc : 1 ≤ cnt) : mayT (.mk 2 1 o (bV b) []) [z0, ⟨0, bV m, bV M⟩] cnt = cmpPosB o (cmpB m b) (cmpB M b) := by
  have h1 : nrm (.mk 2 1 o (bV b) []) false = some [[.mk 2 1 o (bV b) []]] := by rw [nrm]; simp
  unfold mayT
  rw [if_neg (by omega), h1]
  unfold mayR
  simp only [List.any_cons, List.any_nil, Bool.or_false, List.all_cons, List.all_nil, Bool.and_true]
  have e1 : ∀ x y, cmpT (bV x) (bV y) = cmpB x y := fun x y => by unfold bV cmpT; simp
  unfold posT posB
  simp only [show ¬ (2 : Int) = 6 by decide, if_false, show ¬ (1 : Int) < 0 by decide]
  rw [show ((1 : Int)).toNat = 1 from rfl]
  simp only [List.getElem?_cons_succ, List.getElem?_cons_zero, Bool.false_eq_true, if_false, show ¬ (2 : Int) = 3 by decide]
  rw [decide_eq_true (show (0 : Int) < cnt by omega)]
  unfold cmpPosT cmpPosB
  simp only [e1]
  simp [bV]

set_option maxRecDepth 100000 in
set_option maxHeartbeats 8000000 in
/-- What the closure answers of an op. -/
theorem closB_any (o : Int) (b : List Nat) (sb : Value) (zv : Value) (zs : List Zv) (xo : Option Addr) (n xc : Nat) (BB ZB XB : Nat) (z0 : Zt) (m M : List Nat) (w : World) (hn : 1 ≤ n) (hb64 : b.length ≤ 64) (hb : OkV w (bV b, sb)) (hz : RdZV w zv zs) (hzs : zs.map Zv.t = [z0, ⟨0, bV m, bV M⟩])
    (h1 : w.cell? ⟨BB, 0, none⟩ = some sb) (h2 : w.cell? ⟨ZB, 0, none⟩ = some zv) (h3 : w.cell? ⟨XB, 0, none⟩ = some (.slice xo n xc)) :
    Calls Try.prog 36 #[.int .i64 o, .pointer (some ⟨BB, 0, none⟩), .pointer (some ⟨ZB, 0, none⟩), .pointer (some ⟨XB, 0, none⟩)] w fun e w' => e = .returned (.bool (cmpPosB o (cmpB m b) (cmpB M b))) ∧ Below w.heap.size w w' := by
  obtain ⟨sa, sc, hs⟩ := rd_shape8 hb.1
  simp only at hs
  subst hs
  have hrd : RdT1 w (.mk 2 1 o (bV b) []) (cellsP 2 1 o (bV b) (.slice sa b.length sc) (.slice none 0 0)) := by
    unfold RdT1
    exact ⟨_, _, [], rfl, hb, RdS.nil w 8, by unfold RdTs; trivial⟩
  have hzl : zs.length = 2 := by have := congrArg List.length hzs; simpa using this
  have HC := Lib.hid (may_any (.mk 2 1 o (bV b) []) (by simp [depT, depL]) (by simp [cntT, cntL, bV]; omega) (by simp [nodesT, nodesL]) _ zv zs (n : Int) w hrd hz (by omega))
  rw [hzs, mayB o b m M z0 (n : Int) (by omega)] at HC
  have hbv : (bV b).b.length = b.length := rfl
  obtain ⟨bl, hbl⟩ : ∃ bl, bl = b.length := ⟨_, rfl⟩
  rw [hbv, ← hbl] at h1
  rw [← hbl] at HC
  obtain ⟨r, hr⟩ : ∃ r, r = cmpPosB o (cmpB m b) (cmpB M b) := ⟨_, rfl⟩
  rw [← hr] at HC ⊢
  unfold cellsP bV at HC
  simp only at HC
  clear hrd hzl hzs hb hz hbl hr hbv
  go_enter Try.func36, Try.ntmps36
  go_wp2_with fail
  refine HC.out.mono ?_
  rintro e w2 ⟨rfl, hb2⟩
  have HB := Lib.hid hb2
  clear hb2 h1 h2 h3
  go_wp2_with fail
  go_ret
  exact ⟨rfl, HB.out⟩

end Go.Proofs.Ytpabneinikbneaa
