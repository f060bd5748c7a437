/-
  Contracts of stam's Sees and Base.
-/
import Derived.Test.YtnjeoolbnanmiaaStamd
import Derived.Test.YtnjeoolbnanmiaaFit
import Derived.Test.YtnjeoolbnanmiaaSeesra
import Derived.Test.YtnjeoolbnanmiaaSeesrb
import Derived.Test.YtnjeoolbnanmiaaSeesrc
import Derived.Test.YtnjeoolbnanmiaaSeesrd
namespace Go.Proofs.Ytnjeoolbnanmiaa
set_option linter.unusedVariables false
open Go.RowKit Canon

def thereT (x y : Bool × Int) : Bool × List Int := if x.1 = true then (!y.1, hangL x.2 y.2) else (false, [])
/-- What one sees: what me did holds. -/
def seesT (l : List Ti) (bx b ex e me at' : Int) : Bool × List Int :=
  thereT (if isOfB bx me = true then (true, 0) else saidT l bx b at') (if isOfB ex me = true then (true, 0) else endT l ex e at')
/-- What there is but for me. -/
def baseT (l : List Ti) (bx b ex e me at' : Int) : Bool × List Int :=
  thereT (if isOfB bx me = true then (false, 0) else saidT l bx b at') (if isOfB ex me = true then (false, 0) else endT l ex e at')

/-- A number of 64 bits. -/
def I64 (n : Int) : Prop := -9223372036854775808 ≤ n ∧ n ≤ 9223372036854775807
/-- A slice: nil, or with room. -/
def SlF (v : Value) : Prop := v = .slice none 0 0 ∨ ∃ b off l cp, 0 < cp ∧ v = .slice (some ⟨b, off, none⟩) l cp
theorem slF_nsl {v : Value} (h : SlF v) : ∃ b off l cp, v = nslV b off l cp := by
  rcases h with rfl | ⟨b, off, l, cp, h0, rfl⟩
  · exact ⟨0, 0, 0, 0, rfl⟩
  · exact ⟨b, off, l, cp, by unfold nslV; rw [if_neg (by omega)]⟩

theorem agg_inv2 {Z : Nat} {c : Ctx} {D : Nat → Prop} {a b v : Value} (h : VR Z c D (.agg #[a, b]) v) : ∃ a' b', v = .agg #[a', b'] ∧ VR Z c D a a' ∧ VR Z c D b b' := by
  cases h with
  | agg cs cs' hs h =>
    have hl : LR Z c D [a, b] cs'.toList := ⟨hs, h⟩
    obtain ⟨a', r, e1, h1, h2⟩ := hl.inv_cons
    obtain ⟨b', r', e2, h3, h4⟩ := h2.inv_cons
    have e3 := h4.inv_nil
    subst e3
    subst e2
    exact ⟨a', b', by rw [show cs' = #[a', b'] from Array.toList_inj.1 e1], h1, h3⟩

theorem word_eq (a g : Nat) : word a g = wordV (Nat.beq a 1, (g : Int)) := by
  unfold word wordV
  rw [fNat_eq]
  cases Nat.beq a 1 <;> rfl
theorem boolK_eq (a : Nat) : boolK a = .bool (Nat.beq a 1) := by unfold boolK; cases Nat.beq a 1 <;> rfl

theorem bit_of (p : Bool) : ∃ i : Nat, i < 2 ∧ p = Nat.beq i 1 := by
  cases p
  · exact ⟨0, by omega, rfl⟩
  · exact ⟨1, by omega, rfl⟩

section
variable {w : World} {bx b ex e me at' : Int} {b0 off l0 cp : Nat} {l : List Ti}

theorem nm_two {c : Ctx} {D : Nat → Prop} {i j : Nat} {x y : Int} {v : Value} {ns : List Int} {ss : List (Nat × Nat × Nat × Nat)} (hx : ∀ o, 5000000 ≤ o → c.x o = (nmCtx (nmOf ns ss)).x o)
    (hi : ns[i]? = some x) (hj : ns[j]? = some y) (hi32 : i < 32) (hj32 : j < 32) (h1 : I64 x) (h2 : I64 y) (h : VR (zId Try.prog) c D (.agg #[.chan (some (symI i)), .chan (some (symI j))]) v) : v = stampV x y := by
  obtain ⟨a', b', rfl, k1, k2⟩ := agg_inv2 h
  rw [int_vr hx hi hi32 h1.1 k1, int_vr hx hj hj32 h2.1 k2]
  rfl

theorem orc_said (f : FuncId) (i j : Nat) (x y : Int) (W : Bool × Int) {ns : List Int} {v0 : Value} (hi : ns[i]? = some x) (hj : ns[j]? = some y) (h5 : ns[5]? = some at') (hi32 : i < 32) (hj32 : j < 32) (h1 : I64 x) (h2 : I64 y) (h3 : I64 at') (hv : v0 = nslV b0 off l0 cp) (hr : RdT w v0 l)
    (hc : ∀ w', RdT w' v0 l → Calls Try.prog f #[stampV x y, .int .i64 at', v0] w' fun e w'' => e = .returned (wordV W) ∧ Below w'.heap.size w' w'') :
    OrcAt (nmFx w (nmOf ns [(b0, off, l0, cp)])) Try.prog f [.agg #[.chan (some (symI i)), .chan (some (symI j))], .chan (some (symI 5)), SL] (wordV W) := by
  intro c D w1 args' hb hx hA
  obtain ⟨v1, r1, rfl, a1, a2⟩ := hA.inv_cons
  obtain ⟨v2, r2, rfl, a3, a4⟩ := a2.inv_cons
  obtain ⟨v3, r3, rfl, a5, a6⟩ := a4.inv_cons
  rw [a6.inv_nil, nm_two hx hi hj hi32 hj32 h1 h2 a1, int_vr hx h5 (by decide) h3.1 a3, slice_vr hx (k := 0) rfl a5, ← hv]
  exact (hc w1 (hr.kept hb)).mono fun e w' ⟨h1, h2⟩ => ⟨wordV W, h1, .of_ground rfl, h2⟩

theorem orc_isOf (i j : Nat) (x y : Int) {ns : List Int} (ss : List (Nat × Nat × Nat × Nat)) (hi : ns[i]? = some x) (hj : ns[j]? = some y) (h4 : ns[4]? = some me) (hi32 : i < 32) (hj32 : j < 32) (h1 : I64 x) (h2 : I64 y) (h3 : I64 me) :
    OrcAt (nmFx w (nmOf ns ss)) Try.prog 54 [.agg #[.chan (some (symI i)), .chan (some (symI j))], .chan (some (symI 4))] (.bool (isOfB x me)) := by
  intro c D w1 args' hb hx hA
  obtain ⟨v1, r1, rfl, a1, a2⟩ := hA.inv_cons
  obtain ⟨v2, r2, rfl, a3, a4⟩ := a2.inv_cons
  rw [a4.inv_nil, nm_two hx hi hj hi32 hj32 h1 h2 a1, int_vr hx h4 (by decide) h3.1 a3]
  exact (isOf_any x y me w1).mono fun e w' ⟨h1, h2⟩ => ⟨_, h1, .bool _, h2⟩

theorem orc_all (hr : RdT w (nslV b0 off l0 cp) l) (hl : l.length ≤ 1000000) (q0 : I64 bx) (q1 : I64 b) (q2 : I64 ex) (q3 : I64 e) (q4 : I64 me) (q5 : I64 at') {p q i j A B : Nat} (hp : p < 2) (hq : q < 2) (hi : i < 2) (hj : j < 2) (hA : A < 7) (hB : B < 7)
    (hop : isOfB bx me = Nat.beq p 1) (hoq : isOfB ex me = Nat.beq q 1) (hs : saidT l bx b at' = (Nat.beq i 1, (A : Int))) (he : endT l ex e at' = (Nat.beq j 1, (B : Int))) :
    OrcOK (nmFx w (nmOf [bx, b, ex, e, me, at'] [(b0, off, l0, cp)])) Try.prog (orc_sees (p * 392 + q * 196 + i * 98 + A * 14 + j * 7 + B)) := by
  unfold orc_sees
  rw [show (p * 392 + q * 196 + i * 98 + A * 14 + j * 7 + B) / 98 % 2 = i by omega, show (p * 392 + q * 196 + i * 98 + A * 14 + j * 7 + B) / 14 % 7 = A by omega, show (p * 392 + q * 196 + i * 98 + A * 14 + j * 7 + B) / 7 % 2 = j by omega,
    show (p * 392 + q * 196 + i * 98 + A * 14 + j * 7 + B) % 7 = B by omega, show (p * 392 + q * 196 + i * 98 + A * 14 + j * 7 + B) / 392 % 2 = p by omega, show (p * 392 + q * 196 + i * 98 + A * 14 + j * 7 + B) / 196 % 2 = q by omega,
    word_eq, word_eq, boolK_eq, boolK_eq, N0_eq, N1_eq, N2_eq, N3_eq, N4_eq, N5_eq, ← hop, ← hoq, ← hs, ← he]
  refine orcC_ok (orc_said _ 0 1 bx b _ rfl rfl rfl (by decide) (by decide) q0 q1 q5 rfl hr fun w' h => said_any bx b at' _ l w' h hl) ?_
  refine orcC_ok (orc_said _ 2 3 ex e _ rfl rfl rfl (by decide) (by decide) q2 q3 q5 rfl hr fun w' h => saidOfEnd_any ex e at' _ l w' h hl) ?_
  refine orcC_ok (orc_isOf 0 1 bx b _ rfl rfl rfl (by decide) (by decide) q0 q1 q4) ?_
  exact orcC_ok (orc_isOf 2 3 ex e _ rfl rfl rfl (by decide) (by decide) q2 q3 q4) (orcN_ok _ _)

theorem args_all (q0 : I64 bx) (q1 : I64 b) (q2 : I64 ex) (q3 : I64 e) (q4 : I64 me) (q5 : I64 at') :
    LR (zId Try.prog) (nmCtx (nmOf [bx, b, ex, e, me, at'] [(b0, off, l0, cp)])) (symDom Try.prog) args_sees [spanV bx b ex e, .int .i64 me, .int .i64 at', nslV b0 off l0 cp] := by
  unfold args_sees spanV
  rw [N0_eq, N1_eq, N2_eq, N3_eq, N4_eq, N5_eq]
  have hD : ∀ i, symDom Try.prog (5000000 + i) := fun i => .inr (by omega)
  refine LR.cons (VR.agg_of (l := [_, _, _, _]) (l' := [_, _, _, _]) (LR.cons (vr_int _ _ rfl (by decide) q0 (hD 0)) (LR.cons (vr_int _ _ rfl (by decide) q1 (hD 1)) (LR.cons (vr_int _ _ rfl (by decide) q2 (hD 2)) (LR.cons (vr_int _ _ rfl (by decide) q3 (hD 3)) LR.nil)))))
    (LR.cons (vr_int _ _ rfl (by decide) q4 (hD 4)) (LR.cons (vr_int _ _ rfl (by decide) q5 (hD 5)) (LR.cons (vr_slice _ _ rfl fun j hj => .inr (by omega)) LR.nil)))
end

theorem sees_rows : ∀ k, k < 784 → PairO Try.prog orc_sees 60 18 args_sees (wb_sees true) (wl_sees true) k :=
  (nextO 28 (nextO 28 (nextO 28 (nextO 28 (nextO 28 (nextO 28 (nextO 28 (nextO 28 (nextO 28 (nextO 28 (nextO 28 (nextO 28 (nextO 28 (nextO 28 (nextO 28 (nextO 28 (nextO 28 (nextO 28 (nextO 28 (nextO 28 (nextO 28 (nextO 28 (nextO 28 (nextO 28 (nextO 28 (nextO 28 (nextO 28 (nextO 28 (fun k h => absurd h (Nat.not_lt_zero k)) sees_0) sees_28) sees_56) sees_84) sees_112) sees_140) sees_168) sees_196) sees_224) sees_252) sees_280) sees_308) sees_336) sees_364) sees_392) sees_420) sees_448) sees_476) sees_504) sees_532) sees_560) sees_588) sees_616) sees_644) sees_672) sees_700) sees_728) sees_756)
theorem sees_body : hasBody Try.prog 18 = true := by kernel_rfl

theorem sees_any (bx b ex e me at' : Int) (v : Value) (l : List Ti) (w : World) (hr : RdT w v l) (hl : l.length ≤ 1000000) (hv : SlF v) (q0 : I64 bx) (q1 : I64 b) (q2 : I64 ex) (q3 : I64 e) (q4 : I64 me) (q5 : I64 at')
    (hs : 0 ≤ (saidT l bx b at').2 ∧ (saidT l bx b at').2 ≤ 6) (he : 0 ≤ (endT l ex e at').2 ∧ (endT l ex e at').2 ≤ 6) :
    Calls Try.prog 18 #[spanV bx b ex e, .int .i64 me, .int .i64 at', v] w fun z w' => ∃ u, z = .returned (.tuple #[.bool (seesT l bx b ex e me at').1, u]) ∧ RdI w.heap.size w' u (seesT l bx b ex e me at').2 ∧ Below w.heap.size w w' := by
  obtain ⟨b0, off, l0, cp, rfl⟩ := slF_nsl hv
  obtain ⟨p, hp, ep⟩ := bit_of (isOfB bx me)
  obtain ⟨q, hq, eq⟩ := bit_of (isOfB ex me)
  obtain ⟨i, hi, ei⟩ := bit_of (saidT l bx b at').1
  obtain ⟨j, hj, ej⟩ := bit_of (endT l ex e at').1
  obtain ⟨A, hA⟩ : ∃ A : Nat, (saidT l bx b at').2 = A := ⟨((saidT l bx b at').2).toNat, by omega⟩
  obtain ⟨B, hB⟩ : ∃ B : Nat, (endT l ex e at').2 = B := ⟨((endT l ex e at').2).toNat, by omega⟩
  have es : saidT l bx b at' = (Nat.beq i 1, (A : Int)) := by rw [← ei, ← hA]
  have ee : endT l ex e at' = (Nat.beq j 1, (B : Int)) := by rw [← ej, ← hB]
  have lA : A < 7 := by omega
  have lB : B < 7 := by omega
  have ho := orc_all hr hl q0 q1 q2 q3 q4 q5 hp hq hi hj lA lB ep eq es ee
  have hk := sees_rows (p * 392 + q * 196 + i * 98 + A * 14 + j * 7 + B) (by omega)
  have h1 := fit.pairO sees_body hk w ho (args_all q0 q1 q2 q3 q4 q5)
  have e1 : wb_sees true (p * 392 + q * 196 + i * 98 + A * 14 + j * 7 + B) = (seesT l bx b ex e me at').1 := by
    unfold wb_sees seesT
    rw [show (p * 392 + q * 196 + i * 98 + A * 14 + j * 7 + B) / 392 % 2 = p by omega, show (p * 392 + q * 196 + i * 98 + A * 14 + j * 7 + B) / 196 % 2 = q by omega, show (p * 392 + q * 196 + i * 98 + A * 14 + j * 7 + B) / 98 % 2 = i by omega,
      show (p * 392 + q * 196 + i * 98 + A * 14 + j * 7 + B) / 7 % 2 = j by omega, ep, eq, es, ee]
    cases Nat.beq p 1 <;> cases Nat.beq q 1 <;> cases Nat.beq i 1 <;> cases Nat.beq j 1 <;> rfl
  have e2 : wl_sees true (p * 392 + q * 196 + i * 98 + A * 14 + j * 7 + B) = (seesT l bx b ex e me at').2 := by
    unfold wl_sees seesT
    rw [show (p * 392 + q * 196 + i * 98 + A * 14 + j * 7 + B) / 392 % 2 = p by omega, show (p * 392 + q * 196 + i * 98 + A * 14 + j * 7 + B) / 196 % 2 = q by omega, show (p * 392 + q * 196 + i * 98 + A * 14 + j * 7 + B) / 98 % 2 = i by omega,
      show (p * 392 + q * 196 + i * 98 + A * 14 + j * 7 + B) / 14 % 7 = A by omega, show (p * 392 + q * 196 + i * 98 + A * 14 + j * 7 + B) % 7 = B by omega, ep, eq, es, ee]
    cases Nat.beq p 1 <;> cases Nat.beq q 1 <;> cases Nat.beq i 1 <;> cases Nat.beq j 1 <;> rfl
  rw [e1, e2] at h1
  exact h1

theorem base_rows : ∀ k, k < 784 → PairO Try.prog orc_sees 60 19 args_sees (wb_sees false) (wl_sees false) k :=
  (nextO 28 (nextO 28 (nextO 28 (nextO 28 (nextO 28 (nextO 28 (nextO 28 (nextO 28 (nextO 28 (nextO 28 (nextO 28 (nextO 28 (nextO 28 (nextO 28 (nextO 28 (nextO 28 (nextO 28 (nextO 28 (nextO 28 (nextO 28 (nextO 28 (nextO 28 (nextO 28 (nextO 28 (nextO 28 (nextO 28 (nextO 28 (nextO 28 (fun k h => absurd h (Nat.not_lt_zero k)) base_0) base_28) base_56) base_84) base_112) base_140) base_168) base_196) base_224) base_252) base_280) base_308) base_336) base_364) base_392) base_420) base_448) base_476) base_504) base_532) base_560) base_588) base_616) base_644) base_672) base_700) base_728) base_756)
theorem base_body : hasBody Try.prog 19 = true := by kernel_rfl

theorem base_any (bx b ex e me at' : Int) (v : Value) (l : List Ti) (w : World) (hr : RdT w v l) (hl : l.length ≤ 1000000) (hv : SlF v) (q0 : I64 bx) (q1 : I64 b) (q2 : I64 ex) (q3 : I64 e) (q4 : I64 me) (q5 : I64 at')
    (hs : 0 ≤ (saidT l bx b at').2 ∧ (saidT l bx b at').2 ≤ 6) (he : 0 ≤ (endT l ex e at').2 ∧ (endT l ex e at').2 ≤ 6) :
    Calls Try.prog 19 #[spanV bx b ex e, .int .i64 me, .int .i64 at', v] w fun z w' => ∃ u, z = .returned (.tuple #[.bool (baseT l bx b ex e me at').1, u]) ∧ RdI w.heap.size w' u (baseT l bx b ex e me at').2 ∧ Below w.heap.size w w' := by
  obtain ⟨b0, off, l0, cp, rfl⟩ := slF_nsl hv
  obtain ⟨p, hp, ep⟩ := bit_of (isOfB bx me)
  obtain ⟨q, hq, eq⟩ := bit_of (isOfB ex me)
  obtain ⟨i, hi, ei⟩ := bit_of (saidT l bx b at').1
  obtain ⟨j, hj, ej⟩ := bit_of (endT l ex e at').1
  obtain ⟨A, hA⟩ : ∃ A : Nat, (saidT l bx b at').2 = A := ⟨((saidT l bx b at').2).toNat, by omega⟩
  obtain ⟨B, hB⟩ : ∃ B : Nat, (endT l ex e at').2 = B := ⟨((endT l ex e at').2).toNat, by omega⟩
  have es : saidT l bx b at' = (Nat.beq i 1, (A : Int)) := by rw [← ei, ← hA]
  have ee : endT l ex e at' = (Nat.beq j 1, (B : Int)) := by rw [← ej, ← hB]
  have lA : A < 7 := by omega
  have lB : B < 7 := by omega
  have ho := orc_all hr hl q0 q1 q2 q3 q4 q5 hp hq hi hj lA lB ep eq es ee
  have hk := base_rows (p * 392 + q * 196 + i * 98 + A * 14 + j * 7 + B) (by omega)
  have h1 := fit.pairO base_body hk w ho (args_all q0 q1 q2 q3 q4 q5)
  have e1 : wb_sees false (p * 392 + q * 196 + i * 98 + A * 14 + j * 7 + B) = (baseT l bx b ex e me at').1 := by
    unfold wb_sees baseT
    rw [show (p * 392 + q * 196 + i * 98 + A * 14 + j * 7 + B) / 392 % 2 = p by omega, show (p * 392 + q * 196 + i * 98 + A * 14 + j * 7 + B) / 196 % 2 = q by omega, show (p * 392 + q * 196 + i * 98 + A * 14 + j * 7 + B) / 98 % 2 = i by omega,
      show (p * 392 + q * 196 + i * 98 + A * 14 + j * 7 + B) / 7 % 2 = j by omega, ep, eq, es, ee]
    cases Nat.beq p 1 <;> cases Nat.beq q 1 <;> cases Nat.beq i 1 <;> cases Nat.beq j 1 <;> rfl
  have e2 : wl_sees false (p * 392 + q * 196 + i * 98 + A * 14 + j * 7 + B) = (baseT l bx b ex e me at').2 := by
    unfold wl_sees baseT
    rw [show (p * 392 + q * 196 + i * 98 + A * 14 + j * 7 + B) / 392 % 2 = p by omega, show (p * 392 + q * 196 + i * 98 + A * 14 + j * 7 + B) / 196 % 2 = q by omega, show (p * 392 + q * 196 + i * 98 + A * 14 + j * 7 + B) / 98 % 2 = i by omega,
      show (p * 392 + q * 196 + i * 98 + A * 14 + j * 7 + B) / 14 % 7 = A by omega, show (p * 392 + q * 196 + i * 98 + A * 14 + j * 7 + B) % 7 = B by omega, ep, eq, es, ee]
    cases Nat.beq p 1 <;> cases Nat.beq q 1 <;> cases Nat.beq i 1 <;> cases Nat.beq j 1 <;> rfl
  rw [e1, e2] at h1
  exact h1

end Go.Proofs.Ytnjeoolbnanmiaa
