/-
  Plain: numbers: what is read of any bytes is just what was told.
  Plain: bytes: what is read of any bytes is just what was told.
-/
import Derived.Test.YteloepccjoikdaaTxmm
import Derived.Test.YteloepccjoikdaaIcole
import Derived.Test.YteloepccjoikdaaIcola
import Derived.Test.YteloepccjoikdaaGtbase
import Derived.Test.YteloepccjoikdaaBcole
namespace Go.Proofs.Yteloepccjoikdaa
set_option linter.unusedVariables false
set_option linter.unusedSimpArgs false
open Go.RowKit

theorem takeR_good {left : List Nat} {bad : Bool} (h : ∀ x ∈ left, x < 256) : I64 (takeR left bad).1 := zag_i64 (numR_lt left bad)
theorem takeR_mem2 {left : List Nat} {bad : Bool} (h : ∀ x ∈ left, x < 256) : ∀ x ∈ (takeR left bad).2.1, x < 256 := numR_mem (bad := bad) h
theorem rdWords_canon {left : List Nat} {bad : Bool} (h256 : ∀ x ∈ left, x < 256) : ∀ (k : Nat) (ws : List Int) (rest : List Nat), rdWords k left bad = some (ws, rest, false) → left = plainT ws ++ rest ∧ bad = false ∧ ws.Pairwise (· < ·) ∧ ∀ x ∈ ws, I64 x
  | 0, ws, rest, h => by
    rw [rdWords] at h
    simp only [Option.some.injEq, Prod.mk.injEq] at h
    obtain ⟨rfl, rfl, rfl⟩ := h
    exact ⟨rfl, rfl, List.Pairwise.nil, fun x hx => by simp at hx⟩
  | k + 1, ws, rest, h => by
    rw [rdWords] at h
    cases hk : rdWords k left bad with
    | none => rw [hk] at h; cases h
    | some p =>
      obtain ⟨w1, l1, b1⟩ := p
      rw [hk] at h
      simp only at h
      obtain ⟨z, r2, b2, hz⟩ : ∃ z r2 b2, takeR l1 b1 = (z, r2, b2) := ⟨_, _, _, rfl⟩
      rw [hz] at h
      simp only at h
      split at h
      · cases h
      · next hno =>
        simp only [not_or] at hno
        simp only [Option.some.injEq, Prod.mk.injEq] at h
        obtain ⟨rfl, rfl, rfl⟩ := h
        have hb1 : b1 = false := by
          cases b1 with
          | false => rfl
          | true => have := takeR_bad (left := l1); rw [hz] at this; simp at this
        subst hb1
        obtain ⟨e1, e2, e3, e5⟩ := rdWords_canon h256 k w1 l1 hk
        have h256r : ∀ x ∈ l1, x < 256 := by rw [e1] at h256; exact mem_of_app h256
        obtain ⟨e4, _⟩ := takeR_canon h256r hz
        have hgz : I64 z := by have := takeR_good (bad := false) h256r; rw [hz] at this; exact this
        refine ⟨by rw [e1, e4]; unfold plainT; rw [List.map_append, List.flatten_append, List.map_singleton, List.flatten_singleton, List.append_assoc], e2, ?_, fun x hx => ?_⟩
        · rw [List.pairwise_append]
          refine ⟨e3, List.pairwise_singleton _ _, fun a ha b hb => ?_⟩
          obtain rfl := List.mem_singleton.1 hb
          cases hl : w1.getLast? with
          | none => rw [List.getLast?_eq_none_iff] at hl; subst hl; simp at ha
          | some y =>
            obtain ⟨ys, rfl⟩ := List.getLast?_eq_some_iff.1 hl
            have hyz : y < b := Int.not_le.1 fun h => hno.2 ⟨y, hl, h⟩
            rcases List.mem_append.1 ha with ha | ha
            · exact Int.lt_trans ((List.pairwise_append.1 e3).2.2 a ha y List.mem_cons_self) hyz
            · obtain rfl := List.mem_singleton.1 ha
              exact hyz
        · rcases List.mem_append.1 hx with hx | hx
          · exact e5 x hx
          · obtain rfl := List.mem_singleton.1 hx
            exact hgz
theorem dec_dict {r : List Nat} {c : Nat} {l : List Int} (h256 : ∀ x ∈ r, x < 256) (h : rdDict c r false = some l) : r = dictT l ∧ l.length = c ∧ ∀ x ∈ l, I64 x := by
  unfold rdDict at h
  have hl1 := numR_mem (bad := false) h256
  have hnlt := numR_lt r false
  obtain ⟨n, l1, b1, hn⟩ : ∃ n l1 b1, numR r false = (n, l1, b1) := ⟨_, _, _, rfl⟩
  rw [hn] at h hl1 hnlt
  simp only at h hl1 hnlt
  split at h
  · cases h
  · next hc =>
    cases hw : rdWords n l1 b1 with
    | none => rw [hw] at h; cases h
    | some p =>
      obtain ⟨ws, l2, b2⟩ := p
      rw [hw] at h
      simp only at h
      split at h
      · cases h
      · next hb =>
        have hb2 : b2 = false := by simpa using hb
        subst hb2
        cases hu : unpackB l2 (Lib.bitLen (ws.length - 1) : Nat) (c : Int) with
        | none => rw [hu] at h; cases h
        | some us =>
          rw [hu] at h
          simp only at h
          split at h
          · next hall =>
            cases h
            obtain ⟨e1, rfl, e3, e5⟩ := rdWords_canon hl1 n ws l2 hw
            have hwl := rdWords_len n ws l2 false hw
            obtain ⟨e4, _⟩ := numR_canon h256 hn
            have hl2 : ∀ x ∈ l2, x < 256 := by rw [e1] at hl1; exact mem_of_app hl1
            obtain ⟨e6, e7⟩ := unpack_canon hl2 hu
            rw [heldN_id _ (bitLen_le (ws.length - 1) (by omega)).1] at e6
            unfold allUsedT at hall
            rw [Bool.and_eq_true, List.all_eq_true, List.all_eq_true] at hall
            obtain ⟨ha1, ha2⟩ := hall
            have hlt : ∀ p ∈ us, p < ws.length := fun p hp => by have := ha1 p hp; rwa [decide_eq_true_iff] at this
            have hget : ∀ p ∈ us, ws[p]? = some (ws.getD p 0) := fun p hp => by
              rw [List.getD_eq_getElem?_getD, List.getElem?_eq_getElem (hlt p hp)]
              rfl
            have hW : wordsT (us.map fun p => ws.getD p 0) = ws := by
              refine up_ext (wordsT_up _) e3 fun z => ?_
              rw [wordsT_mem, List.mem_map]
              constructor
              · rintro ⟨p, hp, rfl⟩
                exact List.mem_of_getElem? (hget p hp)
              · intro hz
                obtain ⟨i, hi⟩ := List.getElem?_of_mem hz
                have hil := (List.getElem?_eq_some_iff.1 hi).1
                have hiu := ha2 i (List.mem_range.2 hil)
                rw [List.contains_iff_mem] at hiu
                refine ⟨i, hiu, ?_⟩
                have := hget i hiu
                rw [hi] at this
                exact (Option.some.inj this).symm
            have hP : (us.map fun p => ws.getD p 0).map (placeT ws) = us := by
              rw [List.map_map]
              have : ∀ p ∈ us, (placeT ws ∘ fun p => ws.getD p 0) p = p := fun p hp => place_inj e3 (hget p hp)
              rw [List.map_congr_left this, List.map_id']
            refine ⟨?_, by rw [List.length_map, e7]; rfl, fun x hx => ?_⟩
            · unfold dictT
              rw [hW, hP, e4, e1, ← hwl, ← e6, List.append_assoc]
            · obtain ⟨p, hp, rfl⟩ := List.mem_map.1 hx
              exact e5 _ (List.mem_of_getElem? (hget p hp))
          · cases h
theorem rdPlain_good {left : List Nat} {bad : Bool} (h256 : ∀ x ∈ left, x < 256) : ∀ k, (∀ x ∈ (rdPlain k left bad).1, I64 x) ∧ ∀ x ∈ (rdPlain k left bad).2.1, x < 256
  | 0 => ⟨fun x hx => by simp [rdPlain] at hx, h256⟩
  | k + 1 => by
    obtain ⟨h1, h2⟩ := rdPlain_good (bad := bad) h256 k
    rw [rdPlain]
    refine ⟨fun x hx => ?_, takeR_mem2 h2⟩
    rcases List.mem_append.1 hx with hx | hx
    · exact h1 x hx
    · obtain rfl := List.mem_singleton.1 hx
      exact takeR_good h2
theorem rdRuns_good (count : Nat) (all : List Int) : ∀ (f : Nat) (l : List Int) (left : List Nat) (bad : Bool), (∀ x ∈ left, x < 256) → (∀ x ∈ l, I64 x) → l.length ≤ count → count - l.length ≤ f → rdRuns f count l left bad = some all → (∀ x ∈ all, I64 x) ∧ all.length = count := by
  have base : ∀ (l : List Int) (left : List Nat) (bad : Bool), (∀ x ∈ l, I64 x) → l.length = count → wholeT l left bad = some all → (∀ x ∈ all, I64 x) ∧ all.length = count := by
    intro l left bad hg hl h
    unfold wholeT at h
    split at h
    · cases h; exact ⟨hg, hl⟩
    · cases h
  intro f
  induction f with
  | zero => intro l left bad _ hg hl hf h; exact base l left bad hg (by omega) h
  | succ f ih =>
    intro l left bad h256 hg hl hf h
    by_cases hc : count ≤ l.length
    · rw [rdRuns_end _ _ _ _ _ hc] at h
      exact base l left bad hg (by omega) h
    · rw [rdRuns, if_neg hc] at h
      have hm := numR_mem (bad := bad) h256
      obtain ⟨n, r1, b1, hn⟩ : ∃ n r1 b1, numR left bad = (n, r1, b1) := ⟨_, _, _, rfl⟩
      rw [hn] at h hm
      simp only at h hm
      have hm2 := takeR_mem2 (bad := b1) hm
      have hgz := takeR_good (bad := b1) hm
      obtain ⟨z, r2, b2, hz⟩ : ∃ z r2 b2, takeR r1 b1 = (z, r2, b2) := ⟨_, _, _, rfl⟩
      rw [hz] at h hm2 hgz
      simp only at h hm2 hgz
      split at h
      · cases h
      · next hno =>
        simp only [not_or] at hno
        obtain ⟨h1, h2, h3, h4⟩ := hno
        refine ih _ _ _ hm2 (fun x hx => ?_) (by rw [List.length_append, List.length_replicate]; omega) (by rw [List.length_append, List.length_replicate]; omega) h
        rcases List.mem_append.1 hx with hx | hx
        · exact hg x hx
        · rw [(List.mem_replicate.1 hx).2]; exact hgz
theorem frame_good {r : List Nat} {c : Nat} {l : List Int} (h256 : ∀ x ∈ r, x < 256) (h : rdFrame c r false = some l) : ∀ x ∈ l, I64 x := by
  unfold rdFrame at h
  by_cases h0 : c = 0
  · rw [if_pos h0] at h
    unfold wholeT at h
    split at h
    · cases h; exact fun x hx => by simp at hx
    · cases h
  · rw [if_neg h0] at h
    have hg := takeR_good (bad := false) h256
    obtain ⟨lo, r1, b1, ht⟩ : ∃ lo r1 b1, takeR r false = (lo, r1, b1) := ⟨_, _, _, rfl⟩
    rw [ht] at h hg
    simp only at h hg
    cases r1 with
    | nil => cases h
    | cons wd rest =>
      simp only at h
      cases hu : unpackB rest (wd : Nat) (c : Int) with
      | none => rw [hu] at h; cases h
      | some us =>
        rw [hu] at h
        simp only at h
        split at h
        · cases h
        · next hno =>
          simp only [not_or, Decidable.not_not] at hno
          obtain ⟨g1, g2, g3⟩ := hno
          cases h
          intro x hx
          obtain ⟨u, hu2, rfl⟩ := List.mem_map.1 hx
          have hlen : 0 < us.length := List.length_pos_of_mem hu2
          have := ((lo_hiN hlen).1 u hu2).2
          unfold I64 at hg ⊢
          omega
theorem dec_canon {k : Nat} {r : List Nat} {count : Int} {l : List Int} (h256 : ∀ x ∈ r, x < 256) (h : decT (k :: r) count = some l) : 1 ≤ k ∧ k ≤ 4 ∧ r = kindT (k : Int) l ∧ (l.length : Int) = count ∧ l.length ≤ 65535 ∧ ∀ x ∈ l, I64 x := by
  unfold decT at h
  simp only at h
  split at h
  · cases h
  · next hc =>
    simp only [not_or] at hc
    obtain ⟨hc1, hc2⟩ := hc
    obtain ⟨c, rfl⟩ : ∃ c : Nat, count = (c : Int) := ⟨count.toNat, by omega⟩
    rw [Int.toNat_natCast] at h
    split at h
    · next hk =>
      subst hk
      have e := dec_plain h256 h
      have hl : l = (rdPlain c r false).1 := by unfold wholeT at h; split at h <;> cases h; rfl
      have hlen : l.length = c := by rw [hl, rdPlain_len]
      exact ⟨by omega, by omega, e, by omega, by omega, by rw [hl]; exact (rdPlain_good h256 c).1⟩
    · split at h
      · next hk =>
        subst hk
        have e := dec_runs h256 h
        obtain ⟨g1, g2⟩ := rdRuns_good c l c [] r false h256 (fun x hx => by simp at hx) (by simp) (by simp) h
        exact ⟨by omega, by omega, e, by omega, by omega, g1⟩
      · split at h
        · next hk =>
          subst hk
          obtain ⟨e, g2⟩ := dec_frame h256 h
          exact ⟨by omega, by omega, e, by omega, by omega, frame_good h256 h⟩
        · split at h
          · next hk =>
            subst hk
            obtain ⟨e, g2, g1⟩ := dec_dict h256 h
            exact ⟨by omega, by omega, e, by omega, by omega, g1⟩
          · cases h

end Go.Proofs.Yteloepccjoikdaa

namespace Go.Proofs.Yteloepccjoikdaa.Bc
set_option linter.unusedVariables false
set_option linter.unusedSimpArgs false
open Go.RowKit

theorem told_num {k : Nat} {r : List Nat} {count : Int} {L : List By} (h : Told true k r count L) : Go.Proofs.Yteloepccjoikdaa.decT (k :: r) count = some (L.map num64) ∧ TX (L.map num64) = L ∧ ∀ n ∈ L.map num64, I64 n := by
  obtain ⟨hT, hI⟩ := tx_of h.ok
  refine ⟨?_, hT, hI⟩
  obtain ⟨k1, k2, _⟩ := h.kk
  have hle := h.le
  have hlen := h.len
  have e := Go.Proofs.Yteloepccjoikdaa.dec_tell (k : Int) ⟨by omega, by omega⟩ (L.map num64) (by rw [List.length_map]; exact hle) hI
  rw [List.length_map, hlen, Int.toNat_natCast, ← gKind_num _ hI, hT, ← h.eq] at e
  exact e
theorem num_told {k : Nat} {r : List Nat} {count : Int} {l : List Int} (h256 : ∀ x ∈ r, x < 256) (h : Go.Proofs.Yteloepccjoikdaa.decT (k :: r) count = some l) : Told true k r count (TX l) ∧ ∀ n ∈ l, I64 n := by
  obtain ⟨h1, h2, h3, h4, h5, h6⟩ := Go.Proofs.Yteloepccjoikdaa.dec_canon h256 h
  exact ⟨⟨⟨h1, h2, fun _ => rfl⟩, by rw [TX_len]; exact h4, by rw [TX_len]; exact h5, okT_TX h6, by rw [gKind_num _ h6]; exact h3⟩, h6⟩
/-! Bytes. -/
end Go.Proofs.Yteloepccjoikdaa.Bc
