/-
  Contracts: bytes.Compare, cmp.Compare at int64, schm.Compare, schm.Rows.
-/
import Derived.Test.YtlkjdclhgmkndaaOrd
import Derived.Lib.BytesEntry
import Derived.Laws.IdiomStrings
import Derived.Lib.BufferRead
namespace Go.Proofs.Ytlkjdclhgmkndaa
set_option linter.unusedVariables false
open Go.RowKit

/-- What the entries read of a slice of bytes. -/
theorem run_bytesOf {P : Program} {w : World} {v : Value} {bs : List Nat} (hr : Rd w v (bs.map u8v)) : (Extern.Bytes.bytesOf v).run P w = .ok ⟨(bs.map UInt8.ofNat).toArray⟩ w := by
  obtain ⟨ao, cap, rfl, _, hc⟩ := hr
  rcases ao with _ | a
  · have h0 : bs = [] := by
      rcases bs with _ | ⟨x, r⟩
      · rfl
      · obtain ⟨b, off, h1, _⟩ := hc (by simp)
        cases h1
    subst h0
    rfl
  · rcases Nat.eq_zero_or_pos (bs.map u8v).length with h0 | hp
    · have : bs = [] := by simpa using h0
      subst this
      rfl
    · obtain ⟨b, off, h1, h2⟩ := hc hp
      cases h1
      have := Lib.run_loadBytesX (P := P) (w := w) (bs.map fun x : Nat => (x : Int)) ⟨b, off, none⟩ .empty (fun j x hj => by
        rw [List.getElem?_map] at hj
        have hjl : j < bs.length := by
          rcases Nat.lt_or_ge j bs.length with h | h
          · exact h
          · rw [List.getElem?_eq_none h] at hj; cases hj
        rw [List.getElem?_eq_getElem hjl] at hj
        simp only [Option.map_some, Option.some.injEq] at hj
        have e : (⟨b, off, none⟩ : Addr).add j = ⟨b, off + j, none⟩ := by simp [Addr.add]
        rw [e, h2 j (by simpa using hjl), List.getD_eq_getElem?_getD, List.getElem?_map, List.getElem?_eq_getElem hjl, ← hj]
        rfl)
      rw [List.length_map] at this
      show (Extern.Bytes.loadBytes ⟨b, off, none⟩ (bs.map u8v).length .empty).run P w = _
      rw [List.length_map]
      refine this.trans ?_
      simp [Lib.bytesOf, UInt8.ofNat]

theorem compareBytes_eq : ∀ (x y : List Nat), (∀ a ∈ x, a < 256) → (∀ a ∈ y, a < 256) → Lib.compareBytes (x.map UInt8.ofNat) (y.map UInt8.ofNat) = cmpB x y
  | [], [], _, _ => rfl
  | [], _ :: _, _, _ => rfl
  | _ :: _, [], _, _ => rfl
  | a :: x, b :: y, hx, hy => by
    have ih := compareBytes_eq x y (fun v hv => hx v (List.mem_cons_of_mem _ hv)) (fun v hv => hy v (List.mem_cons_of_mem _ hv))
    have ha := hx a List.mem_cons_self
    have hb := hy b List.mem_cons_self
    have l1 : (UInt8.ofNat a < UInt8.ofNat b) ↔ a < b := by rw [UInt8.lt_iff_toNat_lt, UInt8.toNat_ofNat', UInt8.toNat_ofNat', Nat.mod_eq_of_lt ha, Nat.mod_eq_of_lt hb]
    have l2 : (UInt8.ofNat b < UInt8.ofNat a) ↔ b < a := by rw [UInt8.lt_iff_toNat_lt, UInt8.toNat_ofNat', UInt8.toNat_ofNat', Nat.mod_eq_of_lt ha, Nat.mod_eq_of_lt hb]
    unfold cmpB at ih ⊢
    rw [List.map_cons, List.map_cons, Lib.compareBytes, lexL, ih]
    unfold cmpN cmpZ
    by_cases h1 : a < b
    · rw [if_pos (l1.2 h1), if_pos (show (a : Int) < b by omega), if_neg (by decide)]
    · rw [if_neg (fun h => h1 (l1.1 h)), if_neg (show ¬ (a : Int) < b by omega)]
      by_cases h2 : b < a
      · rw [if_pos (l2.2 h2), if_pos (show (b : Int) < a by omega), if_neg (by decide)]
      · rw [if_neg (fun h => h2 (l2.1 h)), if_neg (show ¬ (b : Int) < a by omega), if_pos rfl]

set_option maxHeartbeats 1000000 in
set_option maxRecDepth 100000 in
theorem bcompare_any (v1 v2 : Value) (x y : List Nat) (w : World) (h1 : Rd w v1 (x.map u8v)) (h2 : Rd w v2 (y.map u8v)) (hx : ∀ a ∈ x, a < 256) (hy : ∀ a ∈ y, a < 256) :
    Calls Try.prog 56 #[v1, v2] w fun e w' => e = .returned (.int .i64 (cmpB x y)) ∧ w = w' := by
  have hrun : (Extern.BytealgCompare.compare #[v1, v2]).run Try.prog w = .ok (.int .i64 (cmpB x y)) w := by
    show (do pure (goInt (Extern.BytealgCompare.cmp (← Extern.Bytes.bytesOf v1) (← Extern.Bytes.bytesOf v2))) : Sem Value).run Try.prog w = _
    simp only [Sem.run_bind, run_bytesOf h1, run_bytesOf h2, Result.andThen_ok, Sem.run_pure]
    rw [Lib.cmp_eq, ← compareBytes_eq x y hx hy]
    rfl
  have HR := Lib.hid hrun
  clear hrun h1 h2
  go_enter Try.func56, Try.ntmps56
  go_wp2
  rw [run_callFunc_extern Try.func91 (by kernel_rfl) (by kernel_rfl) (by kernel_rfl) (e := Extern.BytealgCompare.compare) (by kernel_rfl), HR.out]
  simp only [Result.andThen]
  rw [Oper.upon_value]
  go_wp2
  go_ret
  exact ⟨rfl, rfl⟩

set_option maxHeartbeats 1000000 in
theorem zcompare_any (a b : Int) (w : World) :
    Calls Try.prog 57 #[.int .i64 a, .int .i64 b] w fun e w' => e = .returned (.int .i64 (cmpZ a b)) ∧ w = w' := by
  unfold cmpZ
  rcases (by omega : a < b ∨ a = b ∨ b < a) with h | h | h
  · have q1 : decide (a < b) = true := decide_eq_true h
    rw [if_pos h]
    clear h
    go_enter Try.func57, Try.ntmps57
    go_wp2
    go_ret
    exact ⟨rfl, rfl⟩
  · subst h
    rw [if_neg (Int.lt_irrefl a)]
    go_enter Try.func57, Try.ntmps57
    go_wp2
    go_ret
    exact ⟨rfl, rfl⟩
  · rw [if_neg (by omega), if_pos h]
    go_enter Try.func57, Try.ntmps57
    go_wp2
    go_ret
    exact ⟨rfl, rfl⟩

end Go.Proofs.Ytlkjdclhgmkndaa
