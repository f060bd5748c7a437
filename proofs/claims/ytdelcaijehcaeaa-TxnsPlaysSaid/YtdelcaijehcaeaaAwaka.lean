/-
  What the document fixes of layer 1, walked.
-/
import Derived.Test.YtdelcaijehcaeaaUnpack
import Derived.Test.YtdelcaijehcaeaaWidth
import Derived.Test.YtdelcaijehcaeaaAt
import Derived.Test.YtdelcaijehcaeaaSame
namespace Go.Proofs.Ytdelcaijehcaeaa
set_option linter.unusedVariables false
open Go.RowKit

theorem lt256 (l : List Nat) (h : ∀ x ∈ l, x < 256) (i : Nat) : l.getD i 0 < 256 := by
  rw [List.getD_eq_getElem?_getD]
  by_cases hi : i < l.length
  · rw [List.getElem?_eq_getElem hi]; exact h _ (List.getElem_mem hi)
  · rw [List.getElem?_eq_none (by omega)]; decide

theorem lt64 (l : List Nat) (h : ∀ x ∈ l, x < 18446744073709551616) (i : Nat) : l.getD i 0 < 18446744073709551616 := by
  rw [List.getD_eq_getElem?_getD]
  by_cases hi : i < l.length
  · rw [List.getElem?_eq_getElem hi]; exact h _ (List.getElem_mem hi)
  · rw [List.getElem?_eq_none (by omega)]; decide

theorem pack_lit {n : Int} {v : Value} {us bs : List Nat} {w : World} (hr : Rd w v (us.map u64v)) (h64 : ∀ x ∈ us, x < 18446744073709551616) (hl : us.length ≤ 17592186044416) (hb : packB (heldN n) us = bs) :
    Calls Try.prog 17 #[.int .i64 n, v] w (RetOwn w.heap.size 5 (bs.map u8v) w) := by
  have hr' := hr
  obtain ⟨ao, cap, rfl, _⟩ := hr
  rw [List.length_map] at hr' ⊢
  rw [← hb]
  exact pack_any n ao us.length cap us w hr' (lt64 us h64) hl

theorem unpack_lit {n c : Int} {v : Value} {us bs : List Nat} {w : World} (hr : Rd w v (bs.map u8v)) (h256 : ∀ x ∈ bs, x < 256) (hl : bs.length ≤ 17592186044416) (h0 : 0 ≤ c) (hb : unpackB bs n c = some us) :
    Calls Try.prog 19 #[v, .int .i64 n, .int .i64 c] w (RetOwn2 w.heap.size 22 (us.map u64v) true w) := by
  have hr' := hr
  obtain ⟨ao, cap, rfl, _⟩ := hr
  obtain ⟨C, rfl⟩ := Int.eq_ofNat_of_zero_le h0
  rw [List.length_map] at hr' ⊢
  exact unpack_yes n C ao bs.length cap bs us w hr' (lt256 bs h256) hl hb

theorem unpack_lit_no {n c : Int} {v : Value} {bs : List Nat} {w : World} (hr : Rd w v (bs.map u8v)) (h256 : ∀ x ∈ bs, x < 256) (hl : bs.length ≤ 17592186044416) (hb : unpackB bs n c = none) :
    Calls Try.prog 19 #[v, .int .i64 n, .int .i64 c] w fun e w' => e = .returned (.tuple #[.slice none 0 0, .bool false]) ∧ Below w.heap.size w w' := by
  have hr' := hr
  obtain ⟨ao, cap, rfl, _⟩ := hr
  rw [List.length_map] at hr' ⊢
  exact (unpack_no n c ao bs.length cap bs w hr' (lt256 bs h256) hl hb).mono fun e w' ⟨he, k, hk⟩ => ⟨he, by rw [hk]; exact below_drew _ _ k⟩

theorem at_lit {n i : Int} {v : Value} {bs : List Nat} {w : World} {r : Option Nat} (hr : Rd w v (bs.map u8v)) (h256 : ∀ x ∈ bs, x < 256) (hl : bs.length ≤ 17592186044416) (hb : atB bs n i = r) :
    Calls Try.prog 16 #[v, .int .i64 n, .int .i64 i] w fun e w' => e = .returned (.tuple #[.int .u64 (r.getD 0 : Nat), .bool r.isSome]) ∧ Below w.heap.size w w' := by
  have hr' := hr
  obtain ⟨ao, cap, rfl, _⟩ := hr
  rw [List.length_map] at hr' ⊢
  rw [← hb]
  exact (at_any ao bs.length cap bs n i w hr' (lt256 bs h256) hl).mono fun e w' ⟨he, k, hk⟩ => ⟨he, by rw [hk]; exact below_drew _ _ k⟩

theorem same_lit {v1 v2 : Value} {us vs : List Nat} {w : World} {b : Bool} (h1 : Rd w v1 (us.map u64v)) (h2 : Rd w v2 (vs.map u64v)) (hl : us.length ≤ 17592186044416) (hb : (us == vs) = b) :
    Calls Try.prog 20 #[v1, v2] w fun e w' => e = .returned (.bool b) ∧ Below w.heap.size w w' := by
  have h1' := h1
  have h2' := h2
  obtain ⟨a1, c1, rfl, _⟩ := h1
  obtain ⟨a2, c2, rfl, _⟩ := h2
  rw [List.length_map] at h1' h2' ⊢
  rw [List.length_map, ← hb]
  exact (same_any a1 a2 us.length vs.length c1 c2 us vs w h1' h2' (by omega)).mono fun e w' ⟨he, k, hk⟩ => ⟨he, by rw [hk]; exact below_drew _ _ k⟩

theorem width_lit {u : Int} {U n : Nat} {w : World} (hu : u = (U : Int)) (h : U < 18446744073709551616) (hb : Lib.bitLen U = n) :
    Calls Try.prog 15 #[.int .u64 u] w fun e w' => e = .returned (.int .i64 (n : Nat)) ∧ w = w' := by
  rw [hu, ← hb]
  exact width_any U w h

set_option maxHeartbeats 1000000 in
theorem awake1_any (w : World) :
    Calls Try.prog 18 #[] w fun e w' => e = .returned (.bool true) ∧ Below w.heap.size w w' := by
  have HP1 := Lib.hid (show packB (heldN 3) [5, 1, 7] = [167, 128] by decide)
  have HP2 := Lib.hid (show packB (heldN 9) [] = [] by decide)
  have HU1 := Lib.hid (show unpackB [167, 128] 3 3 = some [5, 1, 7] by decide)
  have HU2 := Lib.hid (show unpackB [161] 3 (1 : Int) = none by decide)
  have HA1 := Lib.hid (show atB [167, 128] 3 2 = some 7 by decide)
  have HW0 := Lib.hid (show Lib.bitLen 0 = 0 by decide)
  have HW1 := Lib.hid (show Lib.bitLen 18446744073709551615 = 64 by decide)
  go_enter Try.func18, Try.ntmps18
  go_wp2_with fail
  refine (pack_lit (rd_lit w _ _ 3 ([5, 1, 7].map u64v) rfl rfl (by decide)) (by decide) (by decide) HP1.out).mono ?_
  rintro e w2 ⟨ao, cap, rfl, hown, hb⟩
  have HR2 := Lib.hid (Rd.of_owns hown)
  have HB2 := Lib.hid (below_then (below_alloc w _) hb)
  clear hown hb
  go_wp2_with fail
  refine (unpack_lit HR2.out (by decide) (by decide) (by decide) HU1.out).mono ?_
  rintro e w3 ⟨ao2, cap2, rfl, hown, hb⟩
  have HR3 := Lib.hid (Rd.of_owns hown)
  have HR2' := Lib.hid (HR2.out.kept hb)
  have HB3 := Lib.hid (below_then HB2.out hb)
  clear hown hb HR2 HB2
  go_wp2_with fail
  refine (at_lit HR2'.out (by decide) (by decide) HA1.out).mono ?_
  rintro e w4 ⟨rfl, hb⟩
  have HR3' := Lib.hid (HR3.out.kept hb)
  have HR2 := Lib.hid (HR2'.out.kept hb)
  have HB4 := Lib.hid (below_then HB3.out hb)
  clear hb HR3 HR2' HB3
  go_wp2_with fail
  refine (unpack_lit_no (rd_lit w4 _ _ 1 ([161].map u8v) rfl rfl (by decide)) (by decide) (by decide) HU2.out).mono ?_
  rintro e w5 ⟨rfl, hb0⟩
  have hb := below_then (below_alloc w4 _) hb0
  have HR3 := Lib.hid (HR3'.out.kept hb)
  have hR2 : Rd w5 (.slice ao 2 cap) ([167, 128].map u8v) := HR2.out.kept hb
  have hcv := run_str (P := Try.prog) w5 27 9 5 Try.underlying27 Try.underlying5 Try.underlying9 hR2 (lt256 _ (by decide))
  have hs5 : ((strOf [167, 128]).toList == [167, 128]) = true := by rw [strOf_toList]; rfl
  have HB5 := Lib.hid (below_then HB4.out hb)
  clear hb hb0 HR3' HR2 HB4 hR2
  go_wp2_with fail
  refine (width_lit (U := 0) rfl (by decide) HW0.out).mono ?_
  rintro e w6 ⟨rfl, rfl⟩
  go_wp2_with fail
  refine (width_lit (U := 18446744073709551615) rfl (by decide) HW1.out).mono ?_
  rintro e w6 ⟨rfl, rfl⟩
  go_wp2_with fail
  refine (same_lit (HR3.out.kept (below_alloc w5 _)) (rd_lit w5 _ _ 3 ([5, 1, 7].map u64v) rfl rfl (by decide)) (by decide) (show ([5, 1, 7] == [5, 1, 7]) = true from rfl)).mono ?_
  rintro e w6 ⟨rfl, hb⟩
  have HB6 := Lib.hid (below_then HB5.out (below_then (below_alloc w5 _) hb))
  clear hb HB5 HR3
  go_wp2_with fail
  refine (pack_lit (us := []) (Rd.nil _) (by decide) (by decide) HP2.out).mono ?_
  rintro e w7 ⟨ao3, cap3, rfl, hown, hb⟩
  have HB7 := Lib.hid (below_then HB6.out hb)
  clear hb hown HB6
  go_wp2_with fail
  go_ret
  exact ⟨rfl, HB7.out⟩

end Go.Proofs.Ytdelcaijehcaeaa
