import Derived.Test.YtnfjdoeemnhkbaaLsix
import Derived.Test.YtnfjdoeemnhkbaaLseven
set_option linter.unusedVariables false
set_option linter.unusedSimpArgs false
set_option maxRecDepth 100000
set_option maxHeartbeats 2000000
open Go.Lib (hid)
namespace Go.Proofs.Ytnfjdoeemnhkbaa
open Go.RowKit
open _root_.Nat renaming mod_eq_of_lt -> Qa
open _root_.List renaming mem_cons_of_mem -> Qb, mem_cons_self -> Qc, map_cons -> Qd
theorem zFp : ∀ (a b : List Nat), (∀ x ∈ a, x < 256) -> (∀ x ∈ b, x < 256) -> Op.bytesLess (a.map UInt8.ofNat) (b.map UInt8.ofNat) = decide (cmpB a b < 0)
 | [], [], _, _ => by simp [Op.bytesLess, cmpB, lexL]
 | [], y :: b, _, _ => by simp [Op.bytesLess, cmpB, lexL]
 | x :: a, [], _, _ => by simp [Op.bytesLess, cmpB, lexL]
 | x :: a, y :: b, ha, hb => by
  have ih := zFp a b (fun v hv => ha v (Qb _ hv)) (fun v hv => hb v (Qb _ hv))
  have h1 := ha x Qc
  have h2 := hb y Qc
  rw [Qd, Qd, Op.bytesLess, ih]
  have e1 : (UInt8.ofNat x < UInt8.ofNat y) ↔ x < y := by rw [UInt8.lt_iff_toNat_lt, UInt8.toNat_ofNat', UInt8.toNat_ofNat', Qa h1, Qa h2]
  have e2 : (UInt8.ofNat x == UInt8.ofNat y) = decide (x = y) := by
   rw [Bool.eq_iff_iff, beq_iff_eq, decide_eq_true_eq, <- UInt8.toNat_inj, UInt8.toNat_ofNat', UInt8.toNat_ofNat', Qa h1, Qa h2]
  rw [e2]
  unfold cmpB
  rw [lexL]
  unfold cmpN cmpZ
  rcases Nat.lt_trichotomy x y with h | h | h
  ·have h3 : (x : Int) < (y : Int) := by omega
   simp [e1, h, h3]
  ·subst h
   simp [e1]
  ·have h3 : ¬ (x : Int) < (y : Int) := by omega
   have h4 : (y : Int) < (x : Int) := by omega
   have h5 : ¬ x < y := by omega
   have h6 : ¬ x = y := by omega
   simp [e1, h3, h4, h5, h6]
def refC (a b : Vc) : Int := if a.u = true then (if b.u = true then 0 else -1) else if b.u = true then 1 else if a.k = 1 then cmpZ a.n b.n else if a.k = 2 then cmpB a.b b.b else 0
theorem zDk (p q : Vc × Value) (w : World) (hp : OkV w p) (hq : OkV w q) :
  Calls Try.prog 12 #[aggV p, aggV q] w fun e w' => e = .returned (.int .i64 (refC p.1 q.1)) ∧ Below w.heap.size w w' := by
 have HP := hp.kept (zAw w (.cells #[.bool p.1.u, .int .i64 p.1.k, .int .i64 p.1.n, p.2] 36) (.cells #[.bool q.1.u, .int .i64 q.1.k, .int .i64 q.1.n, q.2] 36))
 have HQ := hq.kept (zAw w (.cells #[.bool p.1.u, .int .i64 p.1.k, .int .i64 p.1.n, p.2] 36) (.cells #[.bool q.1.u, .int .i64 q.1.k, .int .i64 q.1.n, q.2] 36))
 have c1 := zGa (P := Try.prog) _ 34 9 5 Try.underlying34 Try.underlying5 Try.underlying9 HP.1 HP.2
 have c2 := zGa (P := Try.prog) _ 34 9 5 Try.underlying34 Try.underlying5 Try.underlying9 HQ.1 HQ.2
 have hb := zH3 HP.2 HQ.2
 have H1 := hid HP.2
 have H2 := hid HQ.2
 clear hp hq HP HQ
 obtain ⟨⟨au, ak, an, ab⟩, s⟩ := p
 obtain ⟨⟨bu, bk, bn, bb⟩, t⟩ := q
 unfold aggV
 simp only at c1 c2 hb H1 H2 ⊢
 cases au
 ·cases bu
  ·by_cases h1 : ak = 1
   ·subst h1
    have HS := hid (show refC ⟨false, 1, an, ab⟩ ⟨false, bk, bn, bb⟩ = cmpZ an bn by simp [refC])
    clear c1 c2 hb
    rcases Int.lt_trichotomy an bn with h | h | h
    ·have q1 : (an != bn) = true := by rw [bne_iff_ne]; omega
     have q3 : (an == bn) = false := by rw [beq_eq_false_iff_ne]; omega
     have q2 : decide (an < bn) = true := by rw [decide_eq_true_iff]; exact h
     have HZ := hid (show cmpZ an bn = -1 by unfold cmpZ; simp [h])
     go_enter Try.func12, Try.ntmps12
     go_wp2_with fail
     go_ret
     exact ⟨by rw [HS.out, HZ.out]; rfl, zAw w _ _⟩
    ·subst h
     have HZ := hid (show cmpZ an an = 0 by unfold cmpZ; simp)
     go_enter Try.func12, Try.ntmps12
     go_wp2_with fail
     go_ret
     exact ⟨by rw [HS.out, HZ.out]; rfl, zAw w _ _⟩
    ·have q1 : (an != bn) = true := by rw [bne_iff_ne]; omega
     have q3 : (an == bn) = false := by rw [beq_eq_false_iff_ne]; omega
     have q2 : decide (an < bn) = false := by rw [decide_eq_false_iff_not]; omega
     have HZ := hid (show cmpZ an bn = 1 by unfold cmpZ; rw [if_neg (by omega)]; simp; omega)
     go_enter Try.func12, Try.ntmps12
     go_wp2_with fail
     go_ret
     exact ⟨by rw [HS.out, HZ.out]; rfl, zAw w _ _⟩
   ·have q0 : (ak == 1) = false := by rw [beq_eq_false_iff_ne]; exact h1
    by_cases h2 : ak = 2
    ·subst h2
     have HS := hid (show refC ⟨false, 2, an, ab⟩ ⟨false, bk, bn, bb⟩ = cmpB ab bb by simp [refC])
     clear h1
     have hless := zFp ab bb H1.out H2.out
     rw [<- zDe, <- zDe] at hless
     have hcm : Cmp3 cmpB := zC3 zHw
     by_cases he : ab = bb
     ·subst he
      have HZ := hid ((hcm.eq ab ab).2 rfl)
      have q1 : ((txtOf ab).toList == (txtOf ab).toList) = true := by rw [hb]; simp
      clear hb hless hcm
      go_enter Try.func12, Try.ntmps12
      go_wp2_with fail
      go_ret
      exact ⟨by rw [HS.out, HZ.out]; rfl, zAw w _ _⟩
     ·have hne : cmpB ab bb ≠ 0 := fun h => he ((hcm.eq ab bb).1 h)
      have ht := hcm.tri ab bb
      have q1 : ((txtOf ab).toList == (txtOf bb).toList) = false := by rw [hb, beq_eq_false_iff_ne]; exact he
      by_cases hl : cmpB ab bb < 0
      ·have HZ := hid (show cmpB ab bb = -1 by omega)
       rw [decide_eq_true hl] at hless
       clear hb hcm he hne ht hl
       go_enter Try.func12, Try.ntmps12
       go_wp2_with fail
       go_ret
       exact ⟨by rw [HS.out, HZ.out]; rfl, zAw w _ _⟩
      ·have HZ := hid (show cmpB ab bb = 1 by omega)
       rw [decide_eq_false hl] at hless
       clear hb hcm he hne ht hl
       go_enter Try.func12, Try.ntmps12
       go_wp2_with fail
       go_ret
       exact ⟨by rw [HS.out, HZ.out]; rfl, zAw w _ _⟩
    ·have q3 : (ak == 2) = false := by rw [beq_eq_false_iff_ne]; exact h2
     have HS := hid (show refC ⟨false, ak, an, ab⟩ ⟨false, bk, bn, bb⟩ = 0 by simp [refC, h1, h2])
     clear c1 c2 hb h1 h2
     go_enter Try.func12, Try.ntmps12
     go_wp2_with fail
     go_ret
     exact ⟨by rw [HS.out]; rfl, zAw w _ _⟩
  ·clear c1 c2 hb
   go_enter Try.func12, Try.ntmps12
   go_wp2_with fail
   go_ret
   exact ⟨rfl, zAw w _ _⟩
 ·clear c1 c2 hb
  cases bu
  all_goals
   go_enter Try.func12, Try.ntmps12
   go_wp2_with fail
   go_ret
   exact ⟨rfl, zAw w _ _⟩
end Go.Proofs.Ytnfjdoeemnhkbaa
