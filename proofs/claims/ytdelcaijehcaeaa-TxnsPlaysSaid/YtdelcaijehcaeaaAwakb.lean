/-
  What the document fixes of layer 2, walked.
-/
import Derived.Test.YtdelcaijehcaeaaRbytes
import Derived.Test.YtdelcaijehcaeaaZig
import Derived.Test.YtdelcaijehcaeaaWidth
import Derived.Test.YtdelcaijehcaeaaIsRow
import Derived.Lib.SlBytesConst
namespace Go.Proofs.Ytdelcaijehcaeaa
set_option linter.unusedVariables false
open Go.RowKit

theorem lt256b (l : List Nat) (h : ∀ x ∈ l, x < 256) (i : Nat) : l.getD i 0 < 256 := by
  rw [List.getD_eq_getElem?_getD]
  by_cases hi : i < l.length
  · rw [List.getElem?_eq_getElem hi]; exact h _ (List.getElem_mem hi)
  · rw [List.getElem?_eq_none (by omega)]; decide

theorem rd_mark (w : World) (cs : Array Value) (E : TypeId) (fr : Nat × Nat) (n : Nat) (xs : List Value) (hs : cs.toList = xs) (hn : n = xs.length) : Rd (w.alloc (.cells cs E fr)) (.slice (some ⟨w.heap.size, 0, none⟩) n n) xs := by
  subst hs hn
  refine ⟨_, cs.toList.length, rfl, ⟨(fun h => by cases h), Nat.le_refl _⟩, fun hp => ⟨w.heap.size, 0, rfl, fun i hi => ?_⟩⟩
  rw [Nat.zero_add, World.cell?_alloc_mark, List.getD_eq_getElem?_getD, List.getElem?_eq_getElem hi]
  simp at hi
  simp [hi]

theorem rd_grown {w w' : World} {v : Value} {xs : List Value} {r : Nat} (h : Rd w v xs) (hg : w.grownBy w' (some r)) (hne : v.ownBlock ≠ some r) : Rd w' v xs := by
  obtain ⟨ao, cap, hv, hcap, hc⟩ := h
  refine ⟨ao, cap, hv, hcap, fun hp => ?_⟩
  obtain ⟨b, off, ha, hcell⟩ := hc hp
  refine ⟨b, off, ha, fun i hi => ?_⟩
  refine hg.cell (hcell i hi) ?_
  rw [hv, ha] at hne
  exact hne

theorem own_ne {w : World} {B r : Nat} {E : TypeId} {size n : Nat} {v : Value} {xs : List Value} (h : w.ownsRow B E size v n xs) (hr : r < B) : v.ownBlock ≠ some r := by
  rcases h.2 with ⟨rfl, _⟩ | ⟨g, cap, cur, rfl, hbg, _⟩
  · intro h; cases h
  · intro h
    have h2 : g = r := by simpa [Value.ownBlock] using h
    omega

theorem rd_str {ao : Option Addr} {cap : Nat} {w : World} {B : Nat} {E : TypeId} {bs : List Nat} (h : w.ownsRow B E 1 (.slice ao (bs.map u8v).length cap) (bs.map u8v).length (bs.map u8v)) : Rd w (.slice ao bs.length cap) (bs.map u8v) := rd_own_map h

set_option maxRecDepth 100000 in
set_option maxHeartbeats 2000000 in
theorem awake2_any (w : World) :
    Calls Try.prog 23 #[] w fun e w' => e = .returned (.bool true) ∧ Below w.heap.size w w' := by
  have HN1 := Lib.hid (show [] ++ numC 300 = [172, 2] by decide)
  have HB1 := Lib.hid (show [172, 2] ++ bytesC [97, 98] = [172, 2, 2, 97, 98] by decide)
  have HX1 := Lib.hid (show nextC [172, 2, 2, 97, 98] = some (300, 2) by decide)
  have HX2 := Lib.hid (show nextC [2, 97, 98] = some (2, 1) by decide)
  have HX3 := Lib.hid (show nextC [] = none by decide)
  have kc := fun (w : World) (C : Array Value) (n c : Nat) => Lib.run_convert_bytes_const (P := Try.prog) w 27 5 C n c Try.underlying27 Try.underlying5
  go_enter Try.func23, Try.ntmps23
  go_wp2_with fail
  refine (num_any _ [] 300 _ (Rd.nil _) (by simp) (by decide)).mono ?_
  rw [HN1.out]
  rintro e w1 ⟨ao1, cap1, rfl, hown, hb⟩
  have HR1 := Lib.hid (rd_own_map hown)
  have HB := Lib.hid hb
  clear hown hb
  go_wp2_with fail
  refine (cbytes_any _ _ [172, 2] [97, 98] _ (HR1.out.kept (below_alloc w1 _)) (rd_mark w1 _ _ _ 2 ([97, 98].map u8v) rfl rfl) (by decide) (by decide)).mono ?_
  rw [HB1.out]
  rintro e w2 ⟨ao2, cap2, rfl, hown, hb⟩
  have HR2 := Lib.hid (rd_own_map hown)
  have HB2 := Lib.hid (below_then HB.out (below_then (below_alloc w1 _) hb))
  clear hown hb HR1 HB
  go_wp2_with fail
  refine (read_any _ [172, 2, 2, 97, 98] _ HR2.out (by decide)).mono ?_
  rintro e w3 ⟨r, rfl, hr, hi, hb⟩
  have HI := Lib.hid hi
  have HB3 := Lib.hid (below_then HB2.out hb)
  have HRr := Lib.hid (Nat.le_trans HB2.out.size hr)
  clear hi hb hr HB2 HR2
  go_wp2_with fail
  refine (rnum_any r [172, 2, 2, 97, 98] false _ HI.out (by decide) (by decide) 300 2 HX1.out (by decide) (by decide)).mono ?_
  rintro e w4 ⟨rfl, hi, hg⟩
  have HI2 := Lib.hid hi
  have HB4 := Lib.hid (HB3.out.grown hg HB3.out.size (fun k e => by cases e; exact HRr.out))
  clear hi hg HI HB3
  go_wp2_with fail
  refine (rbytes_yes r [2, 97, 98] false _ 2 HI2.out (by decide) (by decide) 2 1 HX2.out (by decide) (by decide) (by decide) (by decide) (by decide) (by decide)).mono ?_
  rintro e w5 ⟨ao5, cap5, rfl, hown, hi, hg⟩
  have HI3 := Lib.hid hi
  have HB5 := Lib.hid (HB4.out.grown hg HB4.out.size (fun k e => by cases e; exact HRr.out))
  have HR5 := Lib.hid (show Rd w5 (.slice ao5 2 cap5) ([97, 98].map u8v) from rd_own_map hown)
  have HNE := Lib.hid (show (Value.slice ao5 2 cap5).ownBlock ≠ some r from own_ne hown HI2.out.lt)
  clear hi hg hown HI2 HB4
  go_wp2_with fail
  refine (ok_any r _ false _ HI3.out).mono ?_
  rintro e w6 ⟨rfl, rfl⟩
  go_wp2_with fail
  refine (rnum_no r [] false _ HI3.out (by decide) (by decide) HX3.out).mono ?_
  rintro e w6 ⟨rfl, hi, hg⟩
  have HI4 := Lib.hid hi
  have HB6 := Lib.hid (HB5.out.grown hg HB5.out.size (fun k e => by cases e; exact HRr.out))
  have hR6 : Rd w6 (.slice ao5 2 cap5) ([97, 98].map u8v) := rd_grown HR5.out hg HNE.out
  have hcv := run_str (P := Try.prog) w6 27 9 5 Try.underlying27 Try.underlying5 Try.underlying9 hR6 (lt256b _ (by decide))
  have hs6 : ((strOf [97, 98]).toList == [97, 98]) = true := by rw [strOf_toList]; rfl
  clear HI3 hi hR6 HR5 hg HB5
  go_wp2_with fail
  refine (ok_any r _ true _ HI4.out).mono ?_
  rintro e w7 ⟨rfl, rfl⟩
  go_wp2_with fail
  refine (rest_any r [] true _ HI4.out (by decide)).mono ?_
  rintro e w7 ⟨ao7, cap7, rfl, hown, hb⟩
  have HB7 := Lib.hid (below_then HB6.out hb)
  clear hown hb HB6
  go_wp2_with fail
  refine (zig_neg (-1) _ (by decide) (by decide)).mono ?_
  rintro e w8 ⟨rfl, rfl⟩
  go_wp2_with fail
  refine (zag_any 3 _ (by decide)).mono ?_
  rintro e w8 ⟨rfl, rfl⟩
  have hzg : zagN 3 = -2 := by decide
  go_wp2_with fail
  refine (num_any _ [] 300 _ (Rd.nil _) (by simp) (by decide)).mono ?_
  rw [HN1.out]
  rintro e w8 ⟨ao8, cap8, rfl, hown, hb⟩
  have hR8 : Rd w8 (.slice ao8 2 cap8) ([172, 2].map u8v) := rd_own_map hown
  have hcv8 := run_str (P := Try.prog) w8 27 9 5 Try.underlying27 Try.underlying5 Try.underlying9 hR8 (lt256b _ (by decide))
  have hs8 : ((strOf [172, 2]).toList == [172, 2]) = true := by rw [strOf_toList]; rfl
  have HB8 := Lib.hid (below_then HB7.out hb)
  clear hown hb HB7 hR8
  go_wp2_with fail
  go_ret
  exact ⟨rfl, HB8.out⟩

end Go.Proofs.Ytdelcaijehcaeaa
