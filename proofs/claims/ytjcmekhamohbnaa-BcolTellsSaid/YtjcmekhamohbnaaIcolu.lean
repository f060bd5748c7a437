/-
  Contracts of layer 4: Tell.
  Layer 4: the bytes of what is told; the reference's SameInts of one column; lower bits.
  Contracts of layer 4: Encode.
  Layer 4, plain: how many bytes the best takes: of alike numbers, of near ones, of few.
  Layer 4: the law's Column; At, of a place that there is.
-/
import Derived.Test.YtjcmekhamohbnaaIcolp
namespace Go.Proofs.Ytjcmekhamohbnaa
set_option linter.unusedVariables false
set_option linter.unusedSimpArgs false
open Go.RowKit

def RetTell (base : Nat) (o : Option (List Nat)) (e : Ending) (w' : World) : Prop := match o with
  | none => e = .returned (.tuple #[.slice none 0 0, .bool false])
  | some bs => ∃ v, e = .returned (.tuple #[v, .bool true]) ∧ OwnB base w' v bs
theorem widT_le {l : List Int} (hI : ∀ n ∈ l, I64 n) : widT l ≤ 64 := by
  unfold widT
  by_cases h0 : 0 < l.length
  · obtain ⟨_, g2, g3⟩ := lo_hi h0
    have h1 := hI _ g2
    have h2 := hI _ g3
    unfold I64 at h1 h2
    exact (bitLen_le _ (by omega)).1
  · have : l = [] := List.length_eq_zero_iff.1 (by omega)
    subst this
    exact (bitLen_le _ (by decide)).1
theorem pack_bound (wd : Nat) (us : List Nat) (h : wd ≤ 64) (hl : us.length ≤ 65535) : (packB wd us).length ≤ 600000 := by
  rw [packB_length]
  have h2 : wd * us.length ≤ 64 * 65535 := Nat.mul_le_mul h hl
  omega
end Go.Proofs.Ytjcmekhamohbnaa

namespace Go.Proofs.Ytjcmekhamohbnaa
set_option linter.unusedVariables false
set_option linter.unusedSimpArgs false
open Go.RowKit

theorem runsT_lt : ∀ (m : Nat) (l : List Int), l.length ≤ m → l.length ≤ 100000 → (∀ n ∈ l, I64 n) → ∀ x ∈ runsT l, x < 256
  | 0, l, h0, _, _, x, hx => by
    have : l = [] := List.length_eq_zero_iff.1 (by omega)
    subst this
    simp [runsT, grp] at hx
  | m + 1, l, h0, hl, hI, x, hx => by
    by_cases hp : 0 < l.length
    · obtain ⟨n, a, h1, h2, h3, h4, h5, h6, h7, h8⟩ := runsT_step l hp
      rw [h7, List.mem_append, List.mem_append] at hx
      rcases hx with (hx | hx) | hx
      · exact numC_lt n (by omega) x hx
      · exact putT_lt (hI a (List.mem_of_getElem? h4)) x hx
      · exact runsT_lt m (l.drop n) (by rw [List.length_drop]; omega) (by rw [List.length_drop]; omega) (fun z hz => hI z (List.mem_of_mem_drop hz)) x hx
    · have : l = [] := List.length_eq_zero_iff.1 (by omega)
      subst this
      simp [runsT, grp] at hx
theorem packB_mem_lt (n : Nat) (us : List Nat) : ∀ x ∈ packB n us, x < 256 := fun x hx => by
  obtain ⟨i, hi⟩ := List.getElem?_of_mem hx
  have h := packB_lt n us i
  rw [List.getD_eq_getElem?_getD, hi] at h
  exact h
theorem kindT_lt (k : Int) (l : List Int) (hI : ∀ n ∈ l, I64 n) (h : l.length ≤ 65535) : ∀ x ∈ kindT k l, x < 256 := by
  intro x hx
  unfold kindT at hx
  split at hx
  · exact plainT_lt hI x hx
  · split at hx
    · exact runsT_lt _ l (Nat.le_refl _) (by omega) hI x hx
    · split at hx
      · unfold frameT at hx
        split at hx
        · simp at hx
        · rename_i h0
          obtain ⟨_, g2, _⟩ := lo_hi (l := l) (by omega)
          rw [List.mem_append, List.mem_append, List.mem_singleton] at hx
          rcases hx with (hx | hx) | hx
          · exact putT_lt (hI _ g2) x hx
          · have := widT_le hI; omega
          · exact packB_mem_lt _ _ x hx
      · unfold dictT at hx
        have h0 := wordsT_len l
        rw [List.mem_append, List.mem_append] at hx
        rcases hx with (hx | hx) | hx
        · exact numC_lt _ (by omega) x hx
        · exact plainT_lt (fun z hz => hI z ((wordsT_mem l z).1 hz)) x hx
        · exact packB_mem_lt _ _ x hx
theorem and_lowI (x : Int) (j : Nat) (hj : j ≤ 20) (m : Int) (hm : m = 2 ^ j - 1) : bits .and .i64 x m = x % 2 ^ j := by
  subst hm
  have hp : (2 ^ j : Int) = ((2 ^ j : Nat) : Int) := by simp
  have hpos : 0 < 2 ^ j := Nat.two_pow_pos j
  have hle : 2 ^ j ≤ 2 ^ 20 := Nat.pow_le_pow_right (by decide) hj
  have h : bits .and .i64 x (2 ^ j - 1) = IntKind.i64.wrap ((BitVec.ofInt 64 x &&& BitVec.ofInt 64 (2 ^ j - 1)).toNat : Int) := rfl
  have e1 : (BitVec.ofInt 64 ((2 : Int) ^ j - 1)).toNat = 2 ^ j - 1 := by
    rw [hp, show (((2 ^ j : Nat) : Int) - 1) = ((2 ^ j - 1 : Nat) : Int) by omega, BitVec.ofInt_natCast, BitVec.toNat_ofNat]
    exact Nat.mod_eq_of_lt (by omega)
  have h1 : (BitVec.ofInt 64 x &&& BitVec.ofInt 64 (2 ^ j - 1)).toNat = (x % 2 ^ j).toNat := by
    rw [BitVec.toNat_and, e1, Nat.and_two_pow_sub_one_eq_mod, BitVec.toNat_ofInt]
    have hd : ((2 ^ j : Nat) : Int) ∣ ((2 ^ 64 : Nat) : Int) := Int.natCast_dvd_natCast.2 (Nat.pow_dvd_pow 2 (by omega))
    have h64 : 0 ≤ x % ((2 ^ 64 : Nat) : Int) := Int.emod_nonneg _ (by decide)
    have hm2 : (x % ((2 ^ 64 : Nat) : Int)) % ((2 ^ j : Nat) : Int) = x % ((2 ^ j : Nat) : Int) := Int.emod_emod_of_dvd x hd
    have : (((x % ((2 ^ 64 : Nat) : Int)).toNat % 2 ^ j : Nat) : Int) = x % ((2 ^ j : Nat) : Int) := by
      rw [Int.natCast_emod, Int.toNat_of_nonneg h64]
      exact hm2
    rw [hp, ← this]
    rfl
  rw [h, h1]
  have h0 : 0 ≤ x % (2 : Int) ^ j := Int.emod_nonneg _ (by rw [hp]; omega)
  have h2 : x % (2 : Int) ^ j < (2 : Int) ^ j := Int.emod_lt_of_pos _ (by rw [hp]; omega)
  rw [Int.toNat_of_nonneg h0]
  exact IntWalk.i64_in _ (by rw [hp] at *; omega)
end Go.Proofs.Ytjcmekhamohbnaa

namespace Go.Proofs.Ytjcmekhamohbnaa
set_option linter.unusedVariables false
set_option linter.unusedSimpArgs false
open Go.RowKit

end Go.Proofs.Ytjcmekhamohbnaa

namespace Go.Proofs.Ytjcmekhamohbnaa
set_option linter.unusedVariables false
set_option linter.unusedSimpArgs false
open Go.RowKit

end Go.Proofs.Ytjcmekhamohbnaa

namespace Go.Proofs.Ytjcmekhamohbnaa
set_option linter.unusedVariables false
set_option linter.unusedSimpArgs false
open Go.RowKit

end Go.Proofs.Ytjcmekhamohbnaa
