/-
  Contract of bitp.Width; a slice of bytes as a string.
-/
import Derived.Test.YtjcmekhamohbnaaSpare
import Derived.Test.YtjcmekhamohbnaaShl
import Derived.Laws.IdiomStrings
import Derived.Lib.BufferRead
namespace Go.Proofs.Ytjcmekhamohbnaa
set_option linter.unusedVariables false
open Go.RowKit

set_option maxHeartbeats 400000 in
theorem width_any (u : Nat) (w : World) (hu : u < 18446744073709551616) :
    Calls Try.prog 72 #[.int .u64 u] w fun e w' => e = .returned (.int .i64 (Lib.bitLen u : Nat)) ∧ w = w' := by
  have h1 : (0 : Int) ≤ (u : Int) := by omega
  have h2 : (u : Int) ≤ 18446744073709551615 := by omega
  go_enter Try.func72, Try.ntmps72
  go_wp2_with (go_at_call 89; refine (Try.bits_Len64 _ _ h1 h2).mono ?_; rw [Int.toNat_natCast]; rintro e w' ⟨rfl, rfl⟩)
  go_ret
  exact ⟨rfl, rfl⟩

def strOf (bs : List Nat) : ByteArray := ⟨(bs.map UInt8.ofNat).toArray⟩

theorem strOf_toList (bs : List Nat) : (strOf bs).toList = bs.map UInt8.ofNat := by rw [ByteArray.toList_eq]; rfl

theorem run_str {P : Program} (w : World) (src dst e : TypeId) (hs : P.underlying src = some (.slice e)) (he : P.underlying e = some (.int .u8)) (hd : P.underlying dst = some .string)
    {ao : Option Addr} {len cap : Nat} {bs : List Nat} (hr : Rd w (.slice ao len cap) (bs.map u8v)) (h256 : ∀ i, bs.getD i 0 < 256) :
    (Go.convert src dst (.slice ao len cap)).run P w = .ok (.string (strOf bs)) w := by
  obtain ⟨hl, hc⟩ := rd_cells hr
  have hlen : len = (bs.map UInt8.ofNat).length := by simpa using hl
  rcases ao with _ | a
  · have h0 : len = 0 := by
      rcases Nat.eq_zero_or_pos len with h | h
      · exact h
      · obtain ⟨b, off, h1, _⟩ := hc h; cases h1
    have hb : bs = [] := List.length_eq_zero_iff.1 (by omega)
    subst h0 hb
    exact Lib.run_convert_nil_bytes w src dst e cap hs he hd
  · rw [hlen]
    refine run_convert_bytes_back w src dst e a cap _ hs he hd fun j hj => ?_
    have hj' : j < len := by omega
    obtain ⟨b, off, h1, h2⟩ := hc (by omega)
    cases h1
    have h3 := h2 j hj'
    have e : (⟨b, off, none⟩ : Addr).add j = ⟨b, off + j, none⟩ := by simp [Addr.add]
    rw [e, h3]
    congr 2
    have hjb : j < bs.length := by omega
    have h4 := h256 j
    rw [List.getD_eq_getElem?_getD, List.getElem?_eq_getElem hjb] at h4 ⊢
    simp only [Option.getD_some] at h4 ⊢
    rw [List.getElem_map, UInt8.toNat_ofNat', Nat.mod_eq_of_lt h4]

end Go.Proofs.Ytjcmekhamohbnaa
