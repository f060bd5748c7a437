/-
  Contract of package rept: Res.
-/
import Derived.Test.YtblnpkameboohaaDoorRpa
namespace Go.Proofs.YtblnpkameboohaaDoor
set_option linter.unusedVariables false
set_option linter.unusedSimpArgs false
open Go.RowKit

/-- Rows, each of which reads as values. -/
structure RowsR (w : World) (v : Value) (L : List (Value × List (Vc × Value))) : Prop where
  out : RdS w 1 v (L.map fun x => [x.1])
  row : ∀ x ∈ L, RdP w x.1 x.2
theorem RowsR.kept {w w' : World} {v : Value} {L : List (Value × List (Vc × Value))} (h : RowsR w v L) (hb : Below w.heap.size w w') : RowsR w' v L := ⟨h.out.kept hb, fun x hx => (h.row x hx).kept hb⟩
structure RowsOk (L : List (Value × List (Vc × Value))) : Prop where
  few : L.length ≤ 100
  rows : ∀ x ∈ L, x.2.length ≤ 100
  vals : ∀ x ∈ L, ∀ t ∈ x.2, OkT t.1
def rowsL (L : List (Value × List (Vc × Value))) : List (List Vc) := L.map fun x => x.2.map Prod.fst
def wordsT (N : Nat) (R : List (List Vc)) : List (List UInt8) := [110] :: Lib.decDigits N :: R.map rowT
def resT (err N : Nat) (R : List (List Vc)) : List UInt8 := if err = 0 then Lib.join (wordsT N R) [32] else [101, 114, 114, 111, 114, 32] ++ Lib.decDigits err
theorem wordsT_more (N : Nat) (l : List (Value × List (Vc × Value))) (t : Value × List (Vc × Value)) : (wordsT N (rowsL (l ++ [t]))).map strV = (wordsT N (rowsL l)).map strV ++ [strV (rowT (t.2.map Prod.fst))] := by
  simp [wordsT, rowsL]
theorem elmStr : Elm Tryd.prog 51 9 1 16 := by
  have hi0 : ∃ i, Tryd.prog.info? 9 = some i ∧ i.zero = some (.string ⟨#[]⟩) ∧ i.size = 1 ∧ i.bytes = 16 := by
    have h := infoStr
    cases hq : Tryd.prog.info? 9 with
    | none => rw [hq] at h; cases h
    | some i =>
      rw [hq] at h
      simp only [Option.map_some, Option.some.injEq, Prod.mk.injEq] at h
      exact ⟨i, rfl, h⟩
  obtain ⟨i, h1, h2, h3, h4⟩ := hi0
  exact ⟨Tryd.underlying51, ⟨i, _, h1, h2, h3, h4, rfl⟩, by decide, by decide⟩

theorem own_basen {w : World} {B : Nat} {E : TypeId} {size n : Nat} {v : Value} {xs : List Value} (h : w.ownsRow B E size v n xs) : ∀ k, v.ownBlock = some k → B ≤ k := by
  intro k hk
  rcases h.2 with ⟨rfl, _⟩ | ⟨g, cap, cur, rfl, hbg, hh, _⟩
  · cases hk
  · have h2 : g = k := by simpa [Value.ownBlock] using hk
    subst h2
    exact hbg
/-- A row of texts of one's own, joined. -/
theorem tjoin_any (TX : List (List UInt8)) (sep : UInt8) (n cap B : Nat) (ao : Option Addr) (hn : n = TX.length) (h0 : 0 < n) (hn2 : n ≤ 1000) (hl : ∀ x ∈ TX, x.length ≤ 1000) (w : World) (hown : w.ownsRow B 9 1 (.slice ao n cap) n (TX.map strV)) :
    Calls Tryd.prog 18 #[.slice ao n cap, .string ⟨#[sep]⟩] w fun e w' => e = .returned (strV (Lib.join TX [sep])) ∧ Below w.heap.size w w' := by
  have hs : ∃ g, ao = some ⟨g, 0, none⟩ ∧ g < w.heap.size ∧ n ≤ cap := by
    rcases hown.2 with ⟨_, h1⟩ | ⟨g, c, cur, h1, _, h3, h4, _⟩
    · omega
    · simp only [Value.slice.injEq] at h1
      obtain ⟨h5, _, h6⟩ := h1
      exact ⟨g, h5, (Array.getElem?_eq_some_iff.1 h3).1, by rw [h6]; exact h4⟩
  obtain ⟨g, rfl, hg, hc⟩ := hs
  have h1 : ((TX.map fun t => (⟨t.toArray⟩ : ByteArray)).map fun x => x.data.toList) = TX := by
    rw [List.map_map]
    exact (List.map_congr_left (fun x _ => rfl)).trans (List.map_id TX)
  have h2 : ((⟨#[sep]⟩ : ByteArray).data.toList) = [sep] := rfl
  have h := Tryd.strings_Join g 0 cap (TX.map fun t => ⟨t.toArray⟩) ⟨#[sep]⟩ w (fun j x hx => by
    rw [List.getElem?_map] at hx
    obtain ⟨t, ht, rfl⟩ := Option.map_eq_some_iff.1 hx
    rw [Nat.zero_add, hown.cellAt j (by have := (List.getElem?_eq_some_iff.1 ht).1; omega), List.getElem?_map, ht]
    rfl) hg (by rw [List.length_map]; omega) (by rw [List.length_map, ← hn]; exact hc) (by
      rw [h1, h2]
      have := join_len [sep] 1000 TX hl
      simp only [List.length_cons, List.length_nil] at this
      have h5 : TX.length * (1000 + (0 + 1)) ≤ 1000 * (1000 + (0 + 1)) := Nat.mul_le_mul_right _ (by omega)
      omega)
  rw [h1, h2, List.length_map, ← hn] at h
  exact h

set_option maxRecDepth 100000 in
set_option maxHeartbeats 8000000 in
theorem tres_any (err N : Nat) (v : Value) (L : List (Value × List (Vc × Value))) (he : err < 100) (hN : N < 100) (hok : RowsOk L) (w : World) (hr : RowsR w v L) :
    Calls Tryd.prog 7 #[.agg #[.int .i64 (err : Int), .int .i64 (N : Int), v]] w fun e w' => e = .returned (strV (resT err N (rowsL L))) ∧ Below w.heap.size w w' := by
  obtain ⟨va, vc, rfl⟩ := rdS_shape hr.out
  obtain ⟨n, hn⟩ : ∃ n, n = L.length := ⟨_, rfl⟩
  rw [List.length_map, ← hn] at hr ⊢
  have HN := Lib.hid hn
  have HR := Lib.hid hr
  have HOK := Lib.hid hok
  have hnl : n ≤ 100 := by have := hok.few; omega
  clear hr hn hok
  by_cases h0 : err = 0
  · subst h0
    have hz : ((0 : Int) == 0) = true := rfl
    go_enter Tryd.func7, Tryd.ntmps7
    go_wp2_with fail
    refine (Tryd.strconv_Itoa_small N hN _).mono ?_
    rintro e w2 ⟨rfl, rfl⟩
    have hbx := heap_alloc_new w (.cells #[.int .i64 0, .int .i64 (N : Int), .slice va n vc] 25)
    have hba := below_alloc w (.cells #[.int .i64 0, .int .i64 (N : Int), .slice va n vc] 25)
    obtain ⟨W, hW⟩ : ∃ W : World, W = w.alloc (.cells #[.int .i64 0, .int .i64 (N : Int), .slice va n vc] 25) := ⟨_, rfl⟩
    obtain ⟨X, hX⟩ : ∃ X, X = w.heap.size := ⟨_, rfl⟩
    rw [← hW] at hbx hba ⊢
    rw [← hX] at hbx ⊢
    have HBX := Lib.hid hbx
    have HBA := Lib.hid hba
    obtain ⟨dn, hdn⟩ : ∃ dn, strV (Lib.decDigits N) = dn := ⟨_, rfl⟩
    have hdn2 : Value.string ⟨(Lib.decDigits N).toArray⟩ = dn := hdn
    rw [hdn2]
    have hdc : ∃ s, dn = .string s := ⟨_, hdn.symm⟩
    obtain ⟨ds, rfl⟩ := hdc
    have HDN := Lib.hid hdn
    clear hbx hba hW hX hdn hdn2
    go_upto_region 4 with (fail)
    have hol := World.ownsRow_lit (e := 9) (size := 1) (base := w.heap.size) W #[.string ⟨#[110]⟩, .string ds] 2 HBA.out.size (by unfold maxLen; omega) rfl
    have hbl := below_lay HBA.out (.cells #[.string ⟨#[110]⟩, .string ds] 9)
    obtain ⟨W2, hW2⟩ : ∃ W2 : World, W2 = W.alloc (.cells #[.string ⟨#[110]⟩, .string ds] 9) := ⟨_, rfl⟩
    rw [← hW2] at hol hbl ⊢
    have hx2 : W2.heap[X]? = some (.cells #[.int .i64 0, .int .i64 (N : Int), .slice va n vc] 25 (0, 0)) := by rw [hW2]; exact (heap_alloc_old W _ (Array.getElem?_eq_some_iff.1 HBX.out).1).trans HBX.out
    have c2 : W2.cell? ⟨X, 2, none⟩ = some (.slice va n vc) := by rw [cell_of_row W2 X 2 _ _ _ hx2]; rfl
    have HOL := Lib.hid hol
    have HBL := Lib.hid hbl
    obtain ⟨G0, hG0⟩ : ∃ G0, G0 = W.heap.size := ⟨_, rfl⟩
    rw [← hG0] at HOL ⊢
    clear hol hbl hW2 hx2 hG0
    go_wp2_with fail
    clear c2
    go_loopw [3, 20] (fun ws i wr => ∃ (q : Nat) (ao : Option Addr) (cap : Nat), q ≤ n ∧ i = .int .i64 (q : Int) ∧ ws = .slice ao (q + 2) cap ∧ wr.ownsRow w.heap.size 9 1 (.slice ao (q + 2) cap) (q + 2) ((wordsT N (rowsL (L.take q))).map strV) ∧ Below w.heap.size w wr) (fun _ i _ => n - (intOf i).toNat)
    case atStart =>
      refine ⟨0, some ⟨G0, 0, none⟩, 2, Nat.zero_le _, rfl, rfl, ?_, HBL.out⟩
      have h := HOL.out
      rw [← HDN.out] at h
      exact h
    case round =>
      obtain ⟨q, ao, cap, hq, rfl, rfl, hown, hb⟩ := hrel
      have HO := Lib.hid hown
      have HB := Lib.hid hb
      clear hown hb
      by_cases hlt : q < n
      · obtain ⟨t, ht⟩ : ∃ t, L[q]? = some t := ⟨_, List.getElem?_eq_getElem (by rw [← HN.out]; exact hlt)⟩
        have hmem := List.mem_of_getElem? ht
        have HTK := Lib.hid (show L.take (q + 1) = L.take q ++ [t] by rw [List.take_add_one, ht]; rfl)
        have hrw := HR.out.kept HB.out
        have HTL := Lib.hid (ttell_any t.1 t.2 (HOK.out.rows t hmem) (HOK.out.vals t hmem) wr (hrw.row t hmem))
        obtain ⟨bb, off, rfl, hcell⟩ := hrw.out.at (k := q) (t := [t.1]) (by rw [List.getElem?_map, ht]; rfl)
        obtain ⟨ta, tc, htv⟩ := rdP_shape (hrw.row t hmem)
        rw [htv] at hcell HTL
        obtain ⟨tn, htn⟩ : ∃ tn, tn = t.2.length := ⟨_, rfl⟩
        rw [← htn] at hcell HTL
        have k0 : wr.cell? ⟨bb, off + q, none⟩ = some (.slice ta tn tc) := by have h := hcell 0 _ rfl; simpa using h
        obtain ⟨TX, hTX⟩ : ∃ TX, TX = rowT (t.2.map Prod.fst) := ⟨_, rfl⟩
        rw [← hTX] at HTL
        obtain ⟨ts, hts⟩ : ∃ ts : ByteArray, strV TX = .string ts := ⟨_, rfl⟩
        rw [hts] at HTL
        have HTS := Lib.hid hts
        have HTX := Lib.hid hTX
        have hqi : (q : Int) < (n : Int) := by omega
        have hq0 : (0 : Int) ≤ (q : Int) := by omega
        clear ht hmem hrw hcell htv htn hTX hts
        go_wp2_with fail
        refine HTL.out.mono ?_
        rintro e w3 ⟨rfl, hb3⟩
        have HB3 := Lib.hid (HB.out.trans (hb3.mono HB.out.size))
        have HO3 := Lib.hid ((own_keptn HO.out hb3).alloc (.cells #[.string ts] 9))
        have HB4 := Lib.hid (below_lay HB3.out (.cells #[.string ts] 9))
        have HRL := Lib.hid (rdS_lit w3 #[.string ts] 9 1 rfl)
        clear hb3 k0 HTL
        go_wp2_with (at_builtin; go_must (refine wpList_append_k elmStr rfl _ _ rfl w.heap.size _ _ _ rfl HO3.out _ [[.string ts]] rfl HRL.out (fun t ht => by rw [List.mem_singleton.1 ht]; exact ⟨rfl, fun u hu => by rw [List.mem_singleton.1 hu]; rfl⟩) (by simp only [List.length_cons, List.length_nil]; omega) HB4.out.size (q + 1 + 2) (by show q + 2 + 1 = q + 1 + 2; omega) ?_); intro ao4 cap4 w4 hown4 hgrow4 hnew4)
        go_roundw
        case rel =>
          refine ⟨q + 1, ao4, cap4, by omega, by go_num, rfl, ?_, ?_⟩
          · rw [HTK.out]
            have h := hown4
            simp only [List.flatten_cons, List.flatten_nil, List.append_nil] at h
            rw [wordsT_more, ← HTX.out, HTS.out]
            exact h
          · exact Below.grown HB4.out hgrow4 HB4.out.size (own_basen HO3.out)
        case measure => simp [intOf]; omega
      · have hqn : q = n := by omega
        subst hqn
        have hni : ¬ ((q : Int) < (q : Int)) := by omega
        have hLt : L.take q = L := List.take_of_length_le (by rw [← HN.out]; exact Nat.le_refl _)
        have hwl : (wordsT N (rowsL L)).length = q + 2 := by
          unfold wordsT rowsL
          simp only [List.length_cons, List.length_map, ← HN.out]
        have HJO := Lib.hid (tjoin_any (wordsT N (rowsL L)) 32 (q + 2) cap w.heap.size ao hwl.symm (by omega) (by omega) (fun x hx => by
          unfold wordsT rowsL at hx
          rcases List.mem_cons.1 hx with rfl | hx
          · simp
          · rcases List.mem_cons.1 hx with rfl | hx
            · have := dec_len hN; omega
            · rw [List.map_map] at hx
              obtain ⟨y, hy, rfl⟩ := List.mem_map.1 hx
              have h1 := rowT_len (l := y.2.map Prod.fst) (fun x hx => by obtain ⟨t, ht, rfl⟩ := List.mem_map.1 hx; exact HOK.out.vals y hy t ht)
              have h2 := HOK.out.rows y hy
              simp only [List.length_map, Function.comp] at h1 ⊢
              omega) wr (by have h := HO.out; rw [hLt] at h; exact h))
        obtain ⟨J, hJ⟩ : ∃ J, J = Lib.join (wordsT N (rowsL L)) [32] := ⟨_, rfl⟩
        rw [← hJ] at HJO
        have HJ := Lib.hid (show resT 0 N (rowsL L) = J by unfold resT; rw [if_pos rfl, hJ])
        clear hLt hwl hJ
        go_wp2_with fail
        refine HJO.out.mono ?_
        rintro e w3 ⟨rfl, hb3⟩
        have HB3 := Lib.hid (HB.out.trans (hb3.mono HB.out.size))
        clear hb3 HJO
        unfold strV
        go_wp2_with fail
        go_ret
        exact ⟨by rw [HJ.out]; rfl, HB3.out⟩
  · have hz : (((err : Nat) : Int) == 0) = false := by rw [beq_eq_false_iff_ne]; omega
    have hz2 : ¬ ((err : Int) = 0) := by omega
    have HE := Lib.hid h0
    obtain ⟨J, hJ⟩ : ∃ J, J = Lib.decDigits err := ⟨_, rfl⟩
    have HJL := Lib.hid (show J.length ≤ 2 by rw [hJ]; exact dec_len he)
    have HDB := Lib.hid hJ
    clear hJ
    go_enter Tryd.func7, Tryd.ntmps7
    go_wp2_with fail
    refine (tnum_any err he _).mono ?_
    rintro e w2 ⟨rfl, hb2⟩
    have HB2 := Lib.hid (below_then (below_alloc w _) hb2)
    clear hb2
    unfold strV
    rw [← HDB.out]
    have hjs : (⟨J.toArray⟩ : ByteArray).size = J.length := str_size J
    have hj1 : J.length ≤ 2 := HJL.out
    go_wp2_with fail
    go_ret
    refine ⟨?_, HB2.out⟩
    show Ending.returned (Value.string ((⟨[101, 114, 114, 111, 114, 32].toArray⟩ : ByteArray) ++ (⟨J.toArray⟩ : ByteArray))) = _
    rw [strV_append]
    unfold resT strV
    rw [if_neg HE.out, HDB.out]

end Go.Proofs.YtblnpkameboohaaDoor
