/-
  Contracts: the reference's SameVal, SameRow; schm.Rows, schm.Fits.
-/
import Derived.Test.YtlkjdclhgmkndaaSchm
namespace Go.Proofs.Ytlkjdclhgmkndaa
set_option linter.unusedVariables false
set_option linter.unusedSimpArgs false
open Go.RowKit

/-- The text that bytes are. -/
def txtOf (bs : List Nat) : ByteArray := ⟨(bs.map UInt8.ofNat).toArray⟩
theorem txtOf_toList (bs : List Nat) : (txtOf bs).toList = bs.map UInt8.ofNat := by rw [ByteArray.toList_eq]; rfl
theorem run_txt {P : Program} (w : World) (src dst e : TypeId) (hs : P.underlying src = some (.slice e)) (he : P.underlying e = some (.int .u8)) (hd : P.underlying dst = some .string)
    {v : Value} {bs : List Nat} (hr : Rd w v (bs.map u8v)) (h256 : ∀ x ∈ bs, x < 256) : (Go.convert src dst v).run P w = .ok (.string (txtOf bs)) w := by
  obtain ⟨ao, cap, rfl, _, hc⟩ := hr
  rcases ao with _ | a
  · have h0 : bs = [] := by
      rcases bs with _ | ⟨x, r⟩
      · rfl
      · obtain ⟨b, off, h1, _⟩ := hc (by simp)
        cases h1
    subst h0
    exact Lib.run_convert_nil_bytes w src dst e cap hs he hd
  · have hlen : (bs.map u8v).length = (bs.map UInt8.ofNat).length := by simp
    rw [hlen]
    refine run_convert_bytes_back w src dst e a cap _ hs he hd fun j hj => ?_
    have hj' : j < bs.length := by simpa using hj
    obtain ⟨b, off, h1, h2⟩ := hc (by rw [List.length_map]; omega)
    cases h1
    have e : (⟨b, off, none⟩ : Addr).add j = ⟨b, off + j, none⟩ := by simp [Addr.add]
    rw [e, h2 j (by rw [List.length_map]; exact hj')]
    congr 1
    have h4 := h256 bs[j] (List.getElem_mem hj')
    rw [List.getD_eq_getElem?_getD, List.getElem?_map, List.getElem?_eq_getElem hj', List.getElem_map, UInt8.toNat_ofNat', Nat.mod_eq_of_lt h4]
    rfl
theorem map_ofNat_inj : ∀ (a b : List Nat), (∀ x ∈ a, x < 256) → (∀ x ∈ b, x < 256) → (a.map UInt8.ofNat = b.map UInt8.ofNat ↔ a = b)
  | [], [], _, _ => by simp
  | [], y :: b, _, _ => by simp
  | x :: a, [], _, _ => by simp
  | x :: a, y :: b, ha, hb => by
    have ih := map_ofNat_inj a b (fun v hv => ha v (List.mem_cons_of_mem _ hv)) (fun v hv => hb v (List.mem_cons_of_mem _ hv))
    have h1 := ha x List.mem_cons_self
    have h2 := hb y List.mem_cons_self
    rw [List.map_cons, List.map_cons, List.cons.injEq, List.cons.injEq, ih]
    have : UInt8.ofNat x = UInt8.ofNat y ↔ x = y := by
      rw [← UInt8.toNat_inj, UInt8.toNat_ofNat', UInt8.toNat_ofNat', Nat.mod_eq_of_lt h1, Nat.mod_eq_of_lt h2]
    rw [this]
theorem txtOf_beq {a b : List Nat} (ha : ∀ x ∈ a, x < 256) (hb : ∀ x ∈ b, x < 256) : ((txtOf a).toList == (txtOf b).toList) = (a == b) := by
  rw [txtOf_toList, txtOf_toList, Bool.eq_iff_iff, beq_iff_eq, beq_iff_eq]
  exact map_ofNat_inj a b ha hb

set_option maxRecDepth 100000 in
set_option maxHeartbeats 1000000 in
theorem sameVal_any (p q : Vc × Value) (w : World) (hp : OkV w p) (hq : OkV w q) :
    Calls Try.prog 22 #[aggV p, aggV q] w fun e w' => e = .returned (.bool (sameT p.1 q.1)) ∧ Below w.heap.size w w' := by
  have HP := hp.kept (below2 w (.cells #[.bool p.1.u, .int .i64 p.1.k, .int .i64 p.1.n, p.2] 31) (.cells #[.bool q.1.u, .int .i64 q.1.k, .int .i64 q.1.n, q.2] 31))
  have HQ := hq.kept (below2 w (.cells #[.bool p.1.u, .int .i64 p.1.k, .int .i64 p.1.n, p.2] 31) (.cells #[.bool q.1.u, .int .i64 q.1.k, .int .i64 q.1.n, q.2] 31))
  have c1 := run_txt (P := Try.prog) _ 29 9 5 Try.underlying29 Try.underlying5 Try.underlying9 HP.1 HP.2
  have c2 := run_txt (P := Try.prog) _ 29 9 5 Try.underlying29 Try.underlying5 Try.underlying9 HQ.1 HQ.2
  have hb := txtOf_beq HP.2 HQ.2
  clear hp hq HP HQ
  obtain ⟨⟨au, ak, an, ab⟩, s⟩ := p
  obtain ⟨⟨bu, bk, bn, bb⟩, t⟩ := q
  unfold aggV
  simp only at c1 c2 hb ⊢
  have HS := Lib.hid (show sameT ⟨au, ak, an, ab⟩ ⟨bu, bk, bn, bb⟩ = ((au == bu) && (ak == bk) && (an == bn) && (ab == bb)) from rfl)
  cases h0 : (au == bu)
  · have hx : au ≠ bu := by simpa using h0
    cases au <;> cases bu <;> simp at hx
    all_goals
      clear c1 c2 hb
      go_enter Try.func22, Try.ntmps22
      go_wp2_with fail
      go_ret
      exact ⟨by rw [HS.out]; rfl, below2 w _ _⟩
  · have hx : au = bu := by simpa using h0
    subst hx
    cases h1 : (ak == bk)
    · clear c1 c2 hb
      cases au
      all_goals
        go_enter Try.func22, Try.ntmps22
        go_wp2_with fail
        go_ret
        exact ⟨by rw [HS.out, h1]; rfl, below2 w _ _⟩
    · cases h2 : (an == bn)
      · clear c1 c2 hb
        cases au
        all_goals
          go_enter Try.func22, Try.ntmps22
          go_wp2_with fail
          go_ret
          exact ⟨by rw [HS.out, h1, h2]; rfl, below2 w _ _⟩
      · have HB := Lib.hid hb
        clear hb
        cases au
        all_goals
          go_enter Try.func22, Try.ntmps22
          go_wp2_with fail
          go_ret
          exact ⟨by rw [HS.out, h1, h2, HB.out]; rfl, below2 w _ _⟩

end Go.Proofs.Ytlkjdclhgmkndaa
