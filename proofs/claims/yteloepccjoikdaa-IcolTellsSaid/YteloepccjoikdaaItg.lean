/-
  Layer 4: At of any bytes and any place; the reference's SameInts of any two rows.
  Layer 4: what the law asks of each kind, and of each row of bytes.
  The walk of IcolTells.
-/
import Derived.Test.YteloepccjoikdaaIcolu
import Derived.Test.YteloepccjoikdaaGtij
import Derived.Test.YteloepccjoikdaaTxej
import Derived.Test.YteloepccjoikdaaRefab
import Derived.Test.YteloepccjoikdaaAwkF
namespace Go.Proofs.Yteloepccjoikdaa
set_option linter.unusedVariables false
set_option linter.unusedSimpArgs false
open Go.RowKit

def atT (o : Option (List Int)) (i : Int) : Option Int := match o with
  | none => none
  | some l => if i < 0 ∨ (l.length : Int) ≤ i then none else some (l.getD i.toNat 0)
def RetAt (o : Option Int) (e : Ending) : Prop := e = .returned (.tuple #[.int .i64 (o.getD 0), .bool o.isSome])

set_option maxRecDepth 100000 in
set_option maxHeartbeats 8000000 in
theorem at_all (bs : List Nat) (bv : Value) (count i : Int) (w : World) (hr : Rd w bv (bs.map u8v)) (h256 : ∀ x ∈ bs, x < 256) (hbig : bs.length ≤ 900000) :
    Calls Try.prog 33 #[bv, .int .i64 count, .int .i64 i] w fun e w' => RetAt (atT (decT bs count) i) e ∧ Below w.heap.size w w' := by
  obtain ⟨ao, cap, rfl⟩ := rd_shape1 hr
  rw [List.length_map] at hr ⊢
  have hD := decode_i bs (.slice ao bs.length cap) count w hr h256 (by omega)
  obtain ⟨o, ho⟩ : ∃ o, o = decT bs count := ⟨_, rfl⟩
  rw [← ho] at hD ⊢
  obtain ⟨m, hm⟩ : ∃ m, m = bs.length := ⟨_, rfl⟩
  rw [← hm] at hD ⊢
  have HD := Lib.hid hD
  clear hr h256 hbig hD hm ho
  go_enter Try.func33, Try.ntmps33
  go_wp2_with fail
  refine HD.out.mono ?_
  rintro e w2 ⟨hret, hb⟩
  have HB := Lib.hid hb
  cases o with
  | none =>
    obtain rfl : e = _ := hret
    clear hb HD
    go_wp2_with fail
    go_ret2
    exact ⟨rfl, HB.out⟩
  | some l =>
    obtain ⟨v, rfl, hown⟩ := hret
    obtain ⟨ao2, k2, rfl⟩ := hown.shape
    obtain ⟨n, hn⟩ : ∃ n, n = l.length := ⟨_, rfl⟩
    have hrd := Rd.of_owns hown
    rw [← hn] at hown hrd ⊢
    have HN := Lib.hid hn
    have HRD := Lib.hid (show Rd w2 (.slice ao2 n k2) (l.map (.int .i64)) from hrd)
    clear hb hown hn HD hrd
    by_cases hneg : i < 0
    · have HA := Lib.hid (show atT (some l) i = none from by unfold atT; simp only; rw [if_pos (.inl hneg)])
      have h1 : decide (i < 0) = true := decide_eq_true hneg
      go_wp2_with fail
      go_ret2
      rw [HA.out]
      exact ⟨rfl, HB.out⟩
    · have h1 : decide (i < 0) = false := decide_eq_false hneg
      obtain ⟨j, rfl⟩ : ∃ j : Nat, i = (j : Int) := ⟨i.toNat, by omega⟩
      have hj0 : (0 : Int) ≤ (j : Int) := by omega
      by_cases hge : n ≤ j
      · have HA := Lib.hid (show atT (some l) (j : Int) = none from by unfold atT; simp only; rw [if_pos (.inr (by rw [← HN.out]; omega))])
        have hgei : (n : Int) ≤ (j : Int) := by omega
        have h2 : decide ((n : Int) ≤ (j : Int)) = true := decide_eq_true hgei
        have h3 : decide ((j : Int) < (n : Int)) = false := decide_eq_false (by omega)
        go_wp2_with fail
        go_ret2
        rw [HA.out]
        exact ⟨rfl, HB.out⟩
      · have hgei : ¬ (n : Int) ≤ (j : Int) := by omega
        have hlti : (j : Int) < (n : Int) := by omega
        have h2 : decide ((n : Int) ≤ (j : Int)) = false := decide_eq_false hgei
        have h3 : decide ((j : Int) < (n : Int)) = true := decide_eq_true hlti
        have HA := Lib.hid (show atT (some l) (j : Int) = some (l.getD j 0) from by unfold atT; simp only; rw [if_neg (by rw [← HN.out]; omega), Int.toNat_natCast])
        obtain ⟨b4, o4, rfl, hc4⟩ := (rd_i64_cells HRD.out).2 (by omega)
        have hy := hc4 j (by omega)
        obtain ⟨z, hz⟩ : ∃ z, z = l.getD j 0 := ⟨_, rfl⟩
        rw [← hz] at hy HA
        clear hc4 hz
        go_wp2_with fail
        go_ret2
        rw [HA.out]
        exact ⟨rfl, HB.out⟩


end Go.Proofs.Yteloepccjoikdaa

namespace Go.Proofs.Yteloepccjoikdaa
set_option linter.unusedVariables false
set_option linter.unusedSimpArgs false
open Go.RowKit

def BytesS (w : World) (v : Value) : Prop := ∃ bs : List Nat, Rd w v (bs.map u8v) ∧ (∀ x ∈ bs, x < 256) ∧ bs.length ≤ 100000
theorem BytesS.kept {w w' : World} {v : Value} (h : BytesS w v) (hb : Below w.heap.size w w') : BytesS w' v := by
  obtain ⟨bs, h1, h2⟩ := h
  exact ⟨bs, h1.kept hb, h2⟩
def RowsS (w : World) (g n : Nat) : Prop := ∀ j, j < n → ∃ v, w.cell? ⟨g, j, none⟩ = some v ∧ BytesS w v

theorem RowsS.kept {w w' : World} {g n : Nat} (h : RowsS w g n) (hb : Below w.heap.size w w') : RowsS w' g n := by
  intro j hj
  obtain ⟨v, hc, hv⟩ := h j hj
  exact ⟨v, (hb.cell (p := ⟨g, j, none⟩) (World.block_lt_of_cell? _ _ hc)).trans hc, hv.kept hb⟩

theorem five_rowsS (w : World) (v0 v1 v2 v3 v4 : Value) (E : TypeId) (h0 : BytesS w v0) (h1 : BytesS w v1) (h2 : BytesS w v2) (h3 : BytesS w v3) (h4 : BytesS w v4) :
    RowsS (w.alloc (.cells #[v0, v1, v2, v3, v4] E)) w.heap.size 5 := by
  intro j hj
  have h := rd_lit w #[v0, v1, v2, v3, v4] E 5 [v0, v1, v2, v3, v4] rfl rfl (by decide)
  obtain ⟨ao, cap, hv, _, hc⟩ := h
  obtain ⟨b, off, ha, hcell⟩ := hc (by simp)
  simp only [Value.slice.injEq] at hv
  obtain ⟨rfl, _⟩ := hv
  cases ha
  have := hcell j (by simpa using hj)
  rw [Nat.zero_add] at this
  have hb := below_alloc w (.cells #[v0, v1, v2, v3, v4] E)
  have h5 : j = 0 ∨ j = 1 ∨ j = 2 ∨ j = 3 ∨ j = 4 := by omega
  rcases h5 with rfl | rfl | rfl | rfl | rfl
  · exact ⟨v0, this, h0.kept hb⟩
  · exact ⟨v1, this, h1.kept hb⟩
  · exact ⟨v2, this, h2.kept hb⟩
  · exact ⟨v3, this, h3.kept hb⟩
  · exact ⟨v4, this, h4.kept hb⟩

theorem five_ints (w : World) (x y z u v : Int) (E : TypeId) : ∀ j, j < 5 → ∃ c : Int, (w.alloc (.cells #[.int .i64 x, .int .i64 y, .int .i64 z, .int .i64 u, .int .i64 v] E)).cell? ⟨w.heap.size, j, none⟩ = some (.int .i64 c) := by
  intro j hj
  have h := rd_lit w #[.int .i64 x, .int .i64 y, .int .i64 z, .int .i64 u, .int .i64 v] E 5 [.int .i64 x, .int .i64 y, .int .i64 z, .int .i64 u, .int .i64 v] rfl rfl (by decide)
  obtain ⟨ao, cap, hv, _, hc⟩ := h
  obtain ⟨b, off, ha, hcell⟩ := hc (by simp)
  simp only [Value.slice.injEq] at hv
  obtain ⟨rfl, _⟩ := hv
  cases ha
  have := hcell j (by simpa using hj)
  rw [Nat.zero_add] at this
  have h5 : j = 0 ∨ j = 1 ∨ j = 2 ∨ j = 3 ∨ j = 4 := by omega
  rcases h5 with rfl | rfl | rfl | rfl | rfl
  · exact ⟨x, this⟩
  · exact ⟨y, this⟩
  · exact ⟨z, this⟩
  · exact ⟨u, this⟩
  · exact ⟨v, this⟩
theorem tell_small (k : Int) (l : List Int) (hI : ∀ n ∈ l, I64 n) (hl : l.length ≤ 100) : (∀ x ∈ (tellT k l).getD [], x < 256) ∧ ((tellT k l).getD []).length ≤ 10001 := by
  unfold tellT
  split
  · exact ⟨fun x hx => by simp at hx, by simp⟩
  · next h =>
    simp only [not_or] at h
    exact told_lt k ⟨by omega, by omega⟩ l hI hl
theorem dec_few {bs : List Nat} {c : Int} (h256 : ∀ x ∈ bs, x < 256) : ((decT bs c).getD []).length ≤ 65535 := by
  cases hd : decT bs c with
  | none => exact Nat.zero_le _
  | some l =>
    cases bs with
    | nil => cases hd
    | cons k r => exact (dec_canon (fun x hx => h256 x (List.mem_cons_of_mem _ hx)) hd).2.2.2.2.1
def RetR {α : Type} (f : α → Value) (o : Option (List α)) (n : Nat) (w : World) (e : Ending) (w' : World) : Prop :=
  ∃ ao cap, e = .returned (.tuple #[.slice ao n cap, .bool o.isSome]) ∧ Rd w' (.slice ao n cap) ((o.getD []).map f) ∧ Below w.heap.size w w'
theorem tell_r {o : Option (List Nat)} {w w' : World} {e : Ending} {base : Nat} (h : RetTell base o e w' ∧ Below w.heap.size w w') : RetR u8v o (o.getD []).length w e w' := by
  obtain ⟨h, hb⟩ := h
  cases o with
  | none => exact ⟨none, 0, h, Rd.nil _, hb⟩
  | some bs =>
    obtain ⟨v, rfl, hown⟩ := h
    obtain ⟨ao, cap, rfl⟩ := hown.shape
    exact ⟨ao, cap, rfl, OwnB.rd hown, hb⟩
theorem opt_r {o : Option (List Int)} {w w' : World} {e : Ending} {base : Nat} (h : RetOpt base o e w' ∧ Below w.heap.size w w') : RetR (Value.int .i64) o (o.getD []).length w e w' := by
  obtain ⟨h, hb⟩ := h
  cases o with
  | none => exact ⟨none, 0, h, Rd.nil _, hb⟩
  | some l =>
    obtain ⟨v, rfl, hown⟩ := h
    obtain ⟨ao, cap, rfl⟩ := hown.shape
    exact ⟨ao, cap, rfl, OwnI.rd hown, hb⟩
theorem at_cases {o : Option (List Int)} (i : Int) : (atT o i = none ∧ (o.isSome = false ∨ (o.isSome = true ∧ i < 0) ∨ (o.isSome = true ∧ 0 ≤ i ∧ ((o.getD []).length : Int) ≤ i))) ∨ (o.isSome = true ∧ ∃ j : Nat, i = (j : Int) ∧ j < (o.getD []).length ∧ atT o i = some ((o.getD []).getD j 0)) := by
  cases o with
  | none => exact .inl ⟨rfl, .inl rfl⟩
  | some l =>
    by_cases h : i < 0 ∨ (l.length : Int) ≤ i
    · have e : atT (some l) i = none := by unfold atT; simp only; rw [if_pos h]
      refine .inl ⟨e, .inr ?_⟩
      by_cases h1 : i < 0
      · exact .inl ⟨rfl, h1⟩
      · exact .inr ⟨rfl, by omega, show (l.length : Int) ≤ i from by omega⟩
    · have e : atT (some l) i = some (l.getD i.toNat 0) := by unfold atT; simp only; rw [if_neg h]
      exact .inr ⟨rfl, i.toNat, by omega, show i.toNat < l.length from by omega, e⟩
def RetV (bs : List Nat) (n : Nat) (w : World) (e : Ending) (w' : World) : Prop := ∃ ao cap, e = .returned (.slice ao n cap) ∧ Rd w' (.slice ao n cap) (bs.map u8v) ∧ Below w.heap.size w w'
theorem enc_v {bs : List Nat} {w w' : World} {e : Ending} {base : Nat} (h : ∃ v, e = .returned v ∧ OwnB base w' v bs ∧ Below w.heap.size w w') : RetV bs bs.length w e w' := by
  obtain ⟨v, rfl, hown, hb⟩ := h
  obtain ⟨ao, cap, rfl⟩ := hown.shape
  exact ⟨ao, cap, rfl, OwnB.rd hown, hb⟩

end Go.Proofs.Yteloepccjoikdaa

namespace Go.Proofs.Yteloepccjoikdaa
set_option linter.unusedVariables false
set_option linter.unusedSimpArgs false
open Go.RowKit

set_option maxRecDepth 100000 in
set_option maxHeartbeats 40000000 in
theorem walk_it (HREF : ∀ (bs : List Nat) (bv : Value) (count : Int) (w : World), Rd w bv (bs.map u8v) → (∀ x ∈ bs, x < 256) → bs.length ≤ 900000 → Calls Try.prog 36 #[bv, .int .i64 count] w fun e w' => RetOpt w.heap.size (decT bs count) e w' ∧ Below w.heap.size w w') (a0 : Option Addr) (len0 cap0 : Nat) (z0 : List Int) (a1 : Int) (a2 : Int) (a3 : Option Addr) (len3 cap3 : Nat) (z3 : List Int) (a4 : Int) (a5 : Int) (a6 : Int) (w : World) (w0 : IsRow .i64 w a0 len0 cap0 z0) (w3 : IsRow .u8 w a3 len3 cap3 z3) (w5 : (Lit.int .u8 a5).wf = true) :
    Calls Try.prog 9 #[.slice a0 len0 cap0, .int .i64 a1, .int .i64 a2, .slice a3 len3 cap3, .int .i64 a4, .int .u8 a5, .int .i64 a6] w fun e w' => e = .returned (.bool true) ∧ Below w.heap.size w w' := by
  obtain ⟨la, hla, h1, h2⟩ := isRow_rd w0
  obtain ⟨raw, hl3, hr3, h256⟩ := isRow_u8 w3
  obtain ⟨b0, b1⟩ := wf_u8 w5
  obtain ⟨by0, rfl⟩ := Int.eq_ofNat_of_zero_le b0
  have hby : by0 < 256 := by omega
  have HC := Lib.hid (column_any la a0 len0 cap0 a1 w (fun n hn => by have := wf_i64 (h2 n hn); unfold I64; omega) hla h1)
  clear w0 w3 w5 b0 b1 hla h1 h2
  by_cases hbr : len3 ≤ 200
  · have hbr' : decide ((200 : Int) < (len3 : Int)) = false := by simp; omega
    have HR3 := Lib.hid hr3
    have HL3 := Lib.hid hl3
    have H256 := Lib.hid h256
    clear hr3 hl3 h256
    obtain ⟨i0, hi, hz0, hz1, hz2⟩ := info_parts info8
    go_enter Try.func9, Try.ntmps9
    go_wp2_with fail
    refine HC.out.mono ?_
    rintro e x1 ⟨v1, rfl, xs, hown1, hxl, hxI, hb1⟩
    obtain ⟨ao, cap, rfl⟩ := hown1.shape
    obtain ⟨q, hq⟩ : ∃ q, q = xs.length := ⟨_, rfl⟩
    have HXL := Lib.hid (show xs.length = q from hq.symm)
    have HXI := Lib.hid hxI
    have HR1 := Lib.hid (OwnI.rd hown1)
    rw [← hq] at HR1 hxl ⊢
    have HB1 := Lib.hid hb1
    have hlt256 := (best_dec xs hxI (by omega)).2.1
    have HE1 := Lib.hid fun w' (h : Below x1.heap.size x1 w') => (encode_i xs (.slice ao q cap) w' hxI (by omega) (HR1.out.kept h)).mono fun e w'' h => enc_v h
    have HE2 := Lib.hid fun w' (h : Below x1.heap.size x1 w') => (Bc.refencode_any xs (.slice ao q cap) w' hxI (by omega) (HR1.out.kept h)).mono fun e w'' h => enc_v h
    obtain ⟨B, hB⟩ : ∃ B, B = bestN xs 4 := ⟨_, rfl⟩
    rw [← hB] at hlt256 HE1 HE2
    obtain ⟨m, hm⟩ : ∃ m, m = B.length := ⟨_, rfl⟩
    rw [← hm] at HE1 HE2
    have H256B := Lib.hid hlt256
    clear HC hq hxI hown1 hb1 hlt256 hB hm
    go_upto_region 4 with (fail)
    go_cut [50] (fun s wx => s = .bool false ∧ Below x1.heap.size x1 wx)
    case first =>
      go_region_with (first
        | (go_at_call 32; go_must (refine (HE1.out _ (by first | assumption | exact below_drw' _ _)).mono ?_); rintro e wA ⟨aA, cA, rfl, hrA, hbA⟩; have hTA : Below x1.heap.size x1 wA := below_then (by first | assumption | exact below_drw' _ _) hbA; have hsA := run_str (P := Try.prog) wA 38 9 5 Try.underlying38 Try.underlying5 Try.underlying9 hrA (lt256 _ H256B.out); (try have hsA2 := run_str (P := Try.prog) wA 38 9 5 Try.underlying38 Try.underlying5 Try.underlying9 (hrB.kept hbA) (lt256 _ H256B.out)))
        | (go_at_call 34; go_must (refine (HE2.out _ (by first | assumption | exact below_drw' _ _)).mono ?_); rintro e wB ⟨aB, cB, rfl, hrB, hbB⟩; have hTB : Below x1.heap.size x1 wB := below_then (by first | assumption | exact below_drw' _ _) hbB; have hsB := run_str (P := Try.prog) wB 38 9 5 Try.underlying38 Try.underlying5 Try.underlying9 hrB (lt256 _ H256B.out); (try have hsB2 := run_str (P := Try.prog) wB 38 9 5 Try.underlying38 Try.underlying5 Try.underlying9 (hrA.kept hbB) (lt256 _ H256B.out))))
      all_goals
        go_wp2_with fail
        go_meet
        exact ⟨by simp, by assumption⟩
    case rest =>
      obtain ⟨rfl, hb2⟩ := hcut
      obtain ⟨x2, hx2⟩ : ∃ x2 : World, x2 = wc := ⟨_, rfl⟩
      rw [← hx2] at hb2 ⊢
      clear hx2
      have HB2 := Lib.hid (below_then HB1.out hb2)
      have HR2 := Lib.hid (HR1.out.kept hb2)
      clear hb2 HE1 HE2 H256B
      go_wp2_with fail
      have HI5 := Lib.hid (five_ints x2 1 2 3 4 a2 3)
      obtain ⟨W2, hW2⟩ : ∃ W2 : World, W2 = x2.alloc (.cells #[.int .i64 1, .int .i64 2, .int .i64 3, .int .i64 4, .int .i64 a2] 3) := ⟨_, rfl⟩
      have HBW2 := Lib.hid (below_then HB2.out (below_alloc x2 (.cells #[.int .i64 1, .int .i64 2, .int .i64 3, .int .i64 4, .int .i64 a2] 3)))
      have HRX := Lib.hid (HR2.out.kept (below_alloc x2 (.cells #[.int .i64 1, .int .i64 2, .int .i64 3, .int .i64 4, .int .i64 a2] 3)))
      rw [← hW2] at HI5 HBW2 HRX ⊢
      clear hW2 HB2 HR2
      go_loopw [54] (fun i wr => ∃ j : Nat, j ≤ 5 ∧ i = .int .i64 (j : Int) ∧ Below W2.heap.size W2 wr) (fun i _ => 5 - (intOf i).toNat)
      case atStart => exact ⟨0, by omega, rfl, Below.refl _ _⟩
      case round =>
        obtain ⟨jk, hjk, rfl, hbel⟩ := hrel
        obtain ⟨wo, rfl⟩ : ∃ wo : World, wo = wr := ⟨_, rfl⟩
        have HBO := Lib.hid hbel
        clear hbel
        by_cases hltk : jk < 5
        · have hdk : decide ((jk : Int) < 5) = true := by simp; omega
          obtain ⟨kk, hc⟩ := HI5.out jk hltk
          have hx := (HBO.out.cell (p := ⟨x2.heap.size, jk, none⟩) (World.block_lt_of_cell? _ _ hc)).trans hc
          clear hc
          have HRXO := Lib.hid (HRX.out.kept HBO.out)
          obtain ⟨hs1, hs2⟩ := tell_small kk xs HXI.out (by rw [HXL.out]; omega)
          have HT1 := Lib.hid fun w' (h : Below wo.heap.size wo w') => (tell_any kk xs (.slice ao q cap) w' HXI.out (by rw [HXL.out]; omega) (HRXO.out.kept h)).mono fun e w'' h => tell_r h
          have HT2 := Lib.hid fun w' (h : Below wo.heap.size wo w') => (Bc.reftell_any kk xs (.slice ao q cap) w' HXI.out (by rw [HXL.out]; omega) (HRXO.out.kept h)).mono fun e w'' h => tell_r h
          obtain ⟨o, ho⟩ : ∃ o, o = tellT kk xs := ⟨_, rfl⟩
          rw [← ho] at hs1 hs2 HT1 HT2
          obtain ⟨bs, hbs⟩ : ∃ bs, bs = o.getD [] := ⟨_, rfl⟩
          have HT1' := Lib.hid fun w' (h : Below wo.heap.size wo w') => show Calls Try.prog 27 #[.int .i64 kk, .slice ao q cap] w' fun e w'' => ∃ ab cb, e = .returned (.tuple #[.slice ab bs.length cb, .bool o.isSome]) ∧ Rd w'' (.slice ab bs.length cb) (bs.map u8v) ∧ Below w'.heap.size w' w'' from by subst hbs; exact HT1.out w' h
          have HT2' := Lib.hid fun w' (h : Below wo.heap.size wo w') => show Calls Try.prog 35 #[.int .i64 kk, .slice ao q cap] w' fun e w'' => ∃ ab cb, e = .returned (.tuple #[.slice ab bs.length cb, .bool o.isSome]) ∧ Rd w'' (.slice ab bs.length cb) (bs.map u8v) ∧ Below w'.heap.size w' w'' from by subst hbs; exact HT2.out w' h
          rw [← hbs] at hs1 hs2
          obtain ⟨bl, hbl⟩ : ∃ bl, bl = bs.length := ⟨_, rfl⟩
          obtain ⟨ob, hob⟩ : ∃ ob, ob = o.isSome := ⟨_, rfl⟩
          rw [← hbl, ← hob] at HT1' HT2'
          rw [← hbl] at hs2
          have HM := Lib.hid hs1
          have HBL := Lib.hid hbl
          have hbl2 : bl ≤ 10001 := hs2
          have hoo : (ob != ob) = false := bne_self_eq_false ob
          clear HT1 HT2 ho hbs hbl hob hs1 hs2
          go_wp2_with fail
          refine (HT1'.out _ (Below.refl _ _)).mono ?_
          rintro e w3 ⟨ab, cb, rfl, hr3b, hb3⟩
          have HRB3 := Lib.hid hr3b
          have HB3' := Lib.hid hb3
          clear hr3b hb3
          go_wp2_with fail
          refine (HT2'.out _ HB3'.out).mono ?_
          rintro e W1 ⟨ao3, capc, rfl, hr4, hb4⟩
          have HRB1 := Lib.hid hr4
          have HB1 := Lib.hid (show Below W2.heap.size W2 W1 from below_then (below_then HBO.out HB3'.out) hb4)
          have hsA := run_str (P := Try.prog) W1 38 9 5 Try.underlying38 Try.underlying5 Try.underlying9 (HRB3.out.kept hb4) (lt256 _ HM.out)
          have hsB := run_str (P := Try.prog) W1 38 9 5 Try.underlying38 Try.underlying5 Try.underlying9 HRB1.out (lt256 _ HM.out)
          have HRR1 := Lib.hid (HR3.out.kept (HBW2.out.trans (HB1.out.mono HBW2.out.size)))
          clear hr4 hb4 HT1' HT2' HRB3 HB3'
          go_upto_region 13 with (fail)
          clear hsA hsB
          have HOE := Lib.hid (own_empty W1 W1.heap.size 5 (Nat.le_refl _))
          have HBA := Lib.hid (below_alloc W1 (.cells #[] 5))
          have HRB2 := Lib.hid (HRB1.out.kept HBA.out)
          have H3 := Lib.hid (ones_u8 bs)
          have H1 := Lib.hid (show (bs.map u8v).length = bl by rw [List.length_map, ← HBL.out])
          have hs1 := Lib.hid HBA.out.size
          go_upto_if 85 with (at_builtin; go_must (refine wpList_append_rd rfl _ _ 38 rfl W1.heap.size 5 i0 (.int .u8 0) 1 Try.underlying38 hi hz0 hz1 hz2 rfl _ _ _ rfl HOE.out _ (bs.map u8v) rfl HRB2.out H3.out (by rw [H1.out]; unfold maxLen; omega) (by rw [H1.out]; omega) hs1.out ?_); intro v' w5 hown' hgrow; rw [H1.out, Nat.zero_add, List.nil_append] at hown'; have HB5 := Lib.hid (below_own HBA.out HOE.out hgrow); obtain ⟨ao5, cap5, hv⟩ := own_shape hown'; subst hv; have HO5 := Lib.hid hown'; clear hown' hgrow)
          go_cut [23] (fun s wx => ∃ k : Nat, ∃ ys : List Nat, k ≤ bl ∧ s = .int .i64 (k : Int) ∧ ys.length = bl ∧ (∀ x ∈ ys, x < 256) ∧ Rd wx (.slice ao5 bl cap5) (ys.map u8v) ∧ Below W1.heap.size W1 wx)
          case first =>
            by_cases hb0 : bl = 0
            · subst hb0
              go_wp2_with fail
              go_meet
              exact ⟨0, bs, by omega, rfl, HBL.out.symm, HM.out, Rd.of_owns HO5.out, HB5.out⟩
            · obtain ⟨c, d, hc, hd, hd1, hc1⟩ := place_some a4 bl (by omega)
              obtain ⟨g, hg⟩ : ∃ g, ao5 = some ⟨g, 0, none⟩ := by
                rcases HO5.out.2 with ⟨_, h0⟩ | ⟨g, cap', cur, hv, _⟩
                · omega
                · simp only [Value.slice.injEq] at hv
                  exact ⟨g, hv.1⟩
              subst hg
              have hfz := HO5.out.frozenAt d
              obtain ⟨y, hy⟩ : ∃ y, w5.cell? ⟨g, d, none⟩ = some y := by
                rw [HO5.out.cellAt d (by omega), List.getElem?_eq_getElem (by rw [List.length_map, ← HBL.out]; exact hd1)]; exact ⟨_, rfl⟩
              have hg1 : W1.heap.size ≤ g := own_base2 HO5.out g rfl
              have HST := Lib.hid (HO5.out.stored d (u8v by0)).1
              go_wp2_with fail
              go_meet
              refine ⟨d, bs.set d by0, by omega, rfl, by rw [List.length_set, HBL.out], ?_, ?_, ?_⟩
              · intro x hx
                rcases List.mem_or_eq_of_mem_set hx with h | h
                · exact HM.out x h
                · rw [h]; exact hby
              · rw [List.map_set]
                exact Rd.of_owns HST.out
              · exact HB5.out.trans ((Below.refl _ _).setCell (p := ⟨g, d, none⟩) hg1 _)
          case rest =>
            obtain ⟨k, ys, hk, rfl, hyl, hy256, hry, hbel⟩ := hcut
            obtain ⟨W4, hW4⟩ : ∃ W4 : World, W4 = wc := ⟨_, rfl⟩
            rw [← hW4] at hbel hry ⊢
            clear hW4
            have HB4 := Lib.hid (below_then HB1.out hbel)
            have HRB4 := Lib.hid (HRB1.out.kept hbel)
            have HRY4 := Lib.hid hry
            have HRR4 := Lib.hid (HRR1.out.kept hbel)
            have HYL := Lib.hid hyl
            have HY256 := Lib.hid hy256
            have hcapc : bl ≤ capc := rd_cap HRB4.out
            have HCP := Lib.hid hcapc
            have hk3 : k ≤ capc := by omega
            clear hbel hry hyl hy256 HRB1 HB1 HB5 HO5 HRB2 HBA HOE hs1
            go_upto_region 18 with (fail)
            go_cut [107, 108, 109] (fun s t u wx => ∃ g : Nat, s = .slice (some ⟨g, 0, none⟩) 5 5 ∧ t = .int .i64 5 ∧ u = .int .i64 0 ∧ RowsS wx g 5 ∧ Below W4.heap.size W4 wx)
            case first =>
              have hszC := Lib.hid (show W4.heap.size ≤ (W4.drew.alloc (.cells #[.int .u8 (by0 : Int)] 5)).heap.size from (below_lay (below_drw' W4.heap.size W4) (.cells #[.int .u8 (by0 : Int)] 5)).size)
              have hsz0 : (W4.drew.alloc (.cells #[] 5)).heap.size = W4.heap.size + 1 := by show (W4.alloc (.cells #[] 5)).heap.size = W4.heap.size + 1; simp
              have hsz1 : (W4.drew.alloc (.cells #[.int .u8 (by0 : Int)] 5)).heap.size = W4.heap.size + 1 := by show (W4.alloc (.cells #[.int .u8 (by0 : Int)] 5)).heap.size = W4.heap.size + 1; simp
              have HOC : Hid (((W4.drew.alloc (.cells #[.int .u8 (by0 : Int)] 5)).alloc (.cells #[] 5)).ownsRow W4.heap.size 5 1 (.slice (some ⟨W4.heap.size + 1, 0, none⟩) 0 0) 0 []) := Lib.hid (by rw [← hsz1]; exact own_empty (W4.drew.alloc (.cells #[.int .u8 (by0 : Int)] 5)) W4.heap.size 5 hszC.out)
              have HLB : Hid (Rd ((W4.drew.alloc (.cells #[] 5)).alloc (.cells #[.int .u8 (by0 : Int)] 5)) (.slice (some ⟨W4.heap.size + 1, 0, none⟩) 1 1) [u8v by0]) := Lib.hid (by rw [← hsz0]; exact (rd_lit (W4.drew.alloc (.cells #[] 5)) #[.int .u8 (by0 : Int)] 5 1 [u8v by0] rfl rfl (by decide)))
              clear hsz0 hsz1
              have H3B := Lib.hid (ones_u8 [by0])
              go_region_law (first
                | (refine step_append_rd (by rfl) _ _ 38 (by rfl) W4.heap.size 5 i0 (.int .u8 0) 1 Try.underlying38 hi hz0 hz1 hz2 rfl _ _ _ (by rfl) hown5 _ [u8v by0] (by rfl) hl5 H3B.out (by simp; unfold maxLen; omega) (by simp; omega) hbel5.size ?_; intro v6 w6 hown6 hgrow6; have hbel6 : Below W4.heap.size W4 w6 := below_own hbel5 hown5 hgrow6; obtain ⟨ao7, cap7, hv6⟩ := own_shape hown6; subst hv6)
                | (refine step_append_rd (by rfl) _ _ 38 (by rfl) W4.heap.size 5 i0 (.int .u8 0) 1 Try.underlying38 hi hz0 hz1 hz2 rfl _ _ _ (by rfl) (hown5.alloc (.cells #[.int .u8 (by0 : Int)] 5)) _ [u8v by0] (by rfl) (rd_lit w5 #[.int .u8 (by0 : Int)] 5 1 [u8v by0] rfl rfl (by decide)) H3B.out (by simp; unfold maxLen; omega) (by simp; omega) (below_lay hbel5 (.cells #[.int .u8 (by0 : Int)] 5)).size ?_; intro v6 w6 hown6 hgrow6; have hbel6 : Below W4.heap.size W4 w6 := below_own (below_lay hbel5 (.cells #[.int .u8 (by0 : Int)] 5)) (hown5.alloc (.cells #[.int .u8 (by0 : Int)] 5)) hgrow6; obtain ⟨ao7, cap7, hv6⟩ := own_shape hown6; subst hv6)
                | (refine step_append_rd (by rfl) _ _ 38 (by rfl) W4.heap.size 5 i0 (.int .u8 0) 1 Try.underlying38 hi hz0 hz1 hz2 rfl _ _ _ (by rfl) (own_empty W4.drew W4.heap.size 5 (Nat.le_refl _)) _ (bs.map u8v) (by rfl) (HRB4.out.kept (below_lay (below_drw' W4.heap.size W4) (.cells #[] 5))) H3.out (by rw [H1.out]; unfold maxLen; omega) (by rw [H1.out]; omega) (below_lay (below_drw' W4.heap.size W4) (.cells #[] 5)).size ?_; intro v5 w5 hown5 hgrow5; rw [H1.out, Nat.zero_add, List.nil_append] at hown5; have hbel5 : Below W4.heap.size W4 w5 := below_own (below_lay (below_drw' W4.heap.size W4) (.cells #[] 5)) (own_empty W4.drew W4.heap.size 5 (Nat.le_refl _)) hgrow5; obtain ⟨ao6, cap6, hv5⟩ := own_shape hown5; subst hv5)
                | (refine step_append_rd (by rfl) _ _ 38 (by rfl) W4.heap.size 5 i0 (.int .u8 0) 1 Try.underlying38 hi hz0 hz1 hz2 rfl _ _ _ (by rfl) ((own_empty W4.drew W4.heap.size 5 (Nat.le_refl _)).alloc (.cells #[.int .u8 (by0 : Int)] 5)) _ (bs.map u8v) (by rfl) (HRB4.out.kept (below_lay (below_lay (below_drw' W4.heap.size W4) (.cells #[] 5)) (.cells #[.int .u8 (by0 : Int)] 5))) H3.out (by rw [H1.out]; unfold maxLen; omega) (by rw [H1.out]; omega) (below_lay (below_lay (below_drw' W4.heap.size W4) (.cells #[] 5)) (.cells #[.int .u8 (by0 : Int)] 5)).size ?_; intro v5 w5 hown5 hgrow5; rw [H1.out, Nat.zero_add, List.nil_append] at hown5; have hbel5 : Below W4.heap.size W4 w5 := below_own (below_lay (below_lay (below_drw' W4.heap.size W4) (.cells #[] 5)) (.cells #[.int .u8 (by0 : Int)] 5)) ((own_empty W4.drew W4.heap.size 5 (Nat.le_refl _)).alloc (.cells #[.int .u8 (by0 : Int)] 5)) hgrow5; have hl5 := rd_grown (r := W4.drew.heap.size) HLB.out hgrow5 (by intro h; simp [Value.ownBlock] at h); obtain ⟨ao6, cap6, hv5⟩ := own_shape hown5; subst hv5)
                | (refine step_append_rd (by rfl) _ _ 38 (by rfl) W4.heap.size 5 i0 (.int .u8 0) 1 Try.underlying38 hi hz0 hz1 hz2 rfl _ _ _ (by rfl) HOC.out _ (bs.map u8v) (by rfl) (HRB4.out.kept (below_lay (below_lay (below_drw' W4.heap.size W4) (.cells #[.int .u8 (by0 : Int)] 5)) (.cells #[] 5))) H3.out (by rw [H1.out]; unfold maxLen; omega) (by rw [H1.out]; omega) (below_lay (below_lay (below_drw' W4.heap.size W4) (.cells #[.int .u8 (by0 : Int)] 5)) (.cells #[] 5)).size ?_; intro v5 w5 hown5 hgrow5; rw [H1.out, Nat.zero_add, List.nil_append] at hown5; have hbel5 : Below W4.heap.size W4 w5 := below_own (below_lay (below_lay (below_drw' W4.heap.size W4) (.cells #[.int .u8 (by0 : Int)] 5)) (.cells #[] 5)) HOC.out hgrow5; have hl5 := rd_grown (r := W4.heap.size + 1) ((rd_lit W4.drew #[.int .u8 (by0 : Int)] 5 1 [u8v by0] rfl rfl (by decide)).kept (below_alloc _ (.cells #[] 5))) hgrow5 (by intro h; simp [Value.ownBlock] at h); obtain ⟨ao6, cap6, hv5⟩ := own_shape hown5; subst hv5))
              all_goals
                have q0 : BytesS w6 (.slice a3 len3 cap3) := ⟨raw, HRR4.out.kept hbel6, H256.out, by rw [HL3.out]; omega⟩
                have q1 : BytesS w6 (.slice ao3 bl capc) := ⟨bs, HRB4.out.kept hbel6, HM.out, by rw [← HBL.out]; omega⟩
                have q2 : BytesS w6 (.slice ao5 bl cap5) := ⟨ys, HRY4.out.kept hbel6, HY256.out, by rw [HYL.out]; omega⟩
                have q3 : BytesS w6 (.slice ao3 k capc) := ⟨bs.take k, by rw [List.map_take]; exact rd_take (HRB4.out.kept hbel6) hk, fun x hx => HM.out x (List.mem_of_mem_take hx), by rw [List.length_take, ← HBL.out]; omega⟩
                have q4 : BytesS w6 (.slice ao7 (bl + 1) cap7) := ⟨bs ++ [by0], by rw [List.map_append]; exact Rd.of_owns hown6, by
                  intro x hx
                  rcases List.mem_append.1 hx with h | h
                  · exact HM.out x h
                  · simp at h; rw [h]; exact hby, by rw [List.length_append, ← HBL.out]; simp; omega⟩
                have HRW := Lib.hid (five_rowsS w6 _ _ _ _ _ 38 q0 q1 q2 q3 q4)
                have HBW6 := Lib.hid (below_lay hbel6 (.cells #[.slice a3 len3 cap3, .slice ao3 bl capc, .slice ao5 bl cap5, .slice ao3 k capc, .slice ao7 (bl + 1) cap7] 38))
                clear hown5 hgrow5 hbel5 hown6 hgrow6 hbel6 q0 q1 q2 q3 q4
                go_wp2_with fail
                go_meet
                exact ⟨_, rfl, rfl, rfl, HRW.out, HBW6.out⟩
            case rest =>
              obtain ⟨g, rfl, rfl, rfl, hfive, hbel⟩ := hcut
              obtain ⟨W5, hW5⟩ : ∃ W5 : World, W5 = wc := ⟨_, rfl⟩
              rw [← hW5] at hbel hfive ⊢
              clear hW5
              have HF := Lib.hid hfive
              have HB5 := Lib.hid (below_then HB4.out hbel)
              clear hbel hfive HB4 HRB4 HRY4 HRR4
              go_wp2_with fail
              go_loopw [109] (fun i wr => ∃ j : Nat, j ≤ 5 ∧ i = .int .i64 (j : Int) ∧ Below W5.heap.size W5 wr) (fun i _ => 5 - (intOf i).toNat)
              case atStart => exact ⟨0, by omega, rfl, Below.refl _ _⟩
              case round =>
                obtain ⟨j, hj, rfl, hbel⟩ := hrel
                obtain ⟨wj, rfl⟩ : ∃ wj : World, wj = wr := ⟨_, rfl⟩
                have HBJ := Lib.hid hbel
                by_cases hlt5 : j < 5
                · have hdj : decide ((j : Int) < 5) = true := by simp; omega
                  obtain ⟨v, hx, hv⟩ := HF.out.kept hbel j hlt5
                  obtain ⟨ys, hrx, hx256, hxl⟩ := hv
                  have HRY := Lib.hid hrx
                  have HY256 := Lib.hid hx256
                  have HYL := Lib.hid hxl
                  clear hbel hrx hx256 hxl
                  go_wp2_with fail
                  have HI3 := Lib.hid (three_ints wj (q : Int) a6 (bits .and .i64 a6 63) 3)
                  have HBW := Lib.hid (below_then HBJ.out (below_alloc wj (.cells #[.int .i64 (q : Int), .int .i64 a6, .int .i64 (bits .and .i64 a6 63)] 3)))
                  obtain ⟨W6, hW6⟩ : ∃ W6 : World, W6 = wj.alloc (.cells #[.int .i64 (q : Int), .int .i64 a6, .int .i64 (bits .and .i64 a6 63)] 3) := ⟨_, rfl⟩
                  rw [← hW6] at HI3 HBW ⊢
                  have HRY6 := Lib.hid (show Rd W6 v (ys.map u8v) by rw [hW6]; exact HRY.out.kept (below_alloc _ _))
                  clear hW6
                  go_loopw [120] (fun i wr => ∃ t : Nat, t ≤ 3 ∧ i = .int .i64 (t : Int) ∧ Below W6.heap.size W6 wr) (fun i _ => 3 - (intOf i).toNat)
                  case atStart => exact ⟨0, by omega, rfl, Below.refl _ _⟩
                  case round =>
                    obtain ⟨t, ht, rfl, hbel⟩ := hrel
                    obtain ⟨wt, rfl⟩ : ∃ wt : World, wt = wr := ⟨_, rfl⟩
                    have HBT := Lib.hid hbel
                    clear hbel
                    by_cases hlt3 : t < 3
                    · have hdt : decide ((t : Int) < 3) = true := by simp; omega
                      obtain ⟨c, hc⟩ := HI3.out t hlt3
                      have hx := (HBT.out.cell (p := ⟨wj.heap.size, t, none⟩) (World.block_lt_of_cell? _ _ hc)).trans hc
                      clear hc
                      have hfew := dec_few (bs := ys) (c := c) HY256.out
                      have HD1 := Lib.hid fun w' (h : Below W6.heap.size W6 w') => (decode_i ys v c w' (HRY6.out.kept h) HY256.out (by have := HYL.out; omega)).mono fun e w'' h => opt_r h
                      have HD2 := Lib.hid fun w' (h : Below W6.heap.size W6 w') => (HREF ys v c w' (HRY6.out.kept h) HY256.out (by have := HYL.out; omega)).mono fun e w'' h => opt_r h
                      have HAT := Lib.hid fun w' i (h : Below W6.heap.size W6 w') => at_all ys v c i w' (HRY6.out.kept h) HY256.out (by have := HYL.out; omega)
                      obtain ⟨o2, ho2⟩ : ∃ o2, o2 = decT ys c := ⟨_, rfl⟩
                      rw [← ho2] at hfew HD1 HD2 HAT
                      obtain ⟨l2, hl2⟩ : ∃ l2, l2 = o2.getD [] := ⟨_, rfl⟩
                      rw [← hl2] at hfew HD1 HD2
                      obtain ⟨n2, hn2⟩ : ∃ n2, n2 = l2.length := ⟨_, rfl⟩
                      obtain ⟨ob2, hob2⟩ : ∃ ob2, ob2 = o2.isSome := ⟨_, rfl⟩
                      have HD1' := Lib.hid fun w' (h : Below W6.heap.size W6 w') => show Calls Try.prog 28 #[v, .int .i64 c] w' fun e w'' => ∃ ab cb, e = .returned (.tuple #[.slice ab n2 cb, .bool ob2]) ∧ Rd w'' (.slice ab n2 cb) (l2.map (.int .i64)) ∧ Below w'.heap.size w' w'' from by subst hn2; subst hob2; subst hl2; exact HD1.out w' h
                      have HD2' := Lib.hid fun w' (h : Below W6.heap.size W6 w') => show Calls Try.prog 36 #[v, .int .i64 c] w' fun e w'' => ∃ ab cb, e = .returned (.tuple #[.slice ab n2 cb, .bool ob2]) ∧ Rd w'' (.slice ab n2 cb) (l2.map (.int .i64)) ∧ Below w'.heap.size w' w'' from by subst hn2; subst hob2; subst hl2; exact HD2.out w' h
                      rw [← hn2] at hfew
                      have HO2 := Lib.hid hob2
                      have HL2 := Lib.hid hl2
                      have HN2 := Lib.hid hn2
                      have hoo2 : (ob2 != ob2) = false := bne_self_eq_false ob2
                      clear HD1 HD2 ho2 hl2 hn2 hob2
                      go_wp2_with fail
                      refine (HD1'.out _ HBT.out).mono ?_
                      rintro e w7 ⟨am, cm, rfl, hr7, hb7⟩
                      have HR7 := Lib.hid hr7
                      have HB7 := Lib.hid (below_then HBT.out hb7)
                      clear hr7 hb7
                      go_wp2_with fail
                      refine (HD2'.out _ HB7.out).mono ?_
                      rintro e w8 ⟨aw, cw, rfl, hr8, hb8⟩
                      have HR78 := Lib.hid (HR7.out.kept hb8)
                      have HR8 := Lib.hid hr8
                      have HB8 := Lib.hid (below_then HB7.out hb8)
                      have hw2 : IntKind.i64.wrap ((n2 : Int) - 1) = (n2 : Int) - 1 := IntWalk.i64_in _ (by omega)
                      clear hr8 hb8 HD1' HD2'
                      go_wp2_with fail
                      refine (sameints_any l2 (.slice am n2 cm) (.slice aw n2 cw) w8 (by rw [← HN2.out]; omega) HR78.out HR8.out).mono ?_
                      rintro e w9 ⟨rfl, hb9⟩
                      have HR9 := Lib.hid (HR8.out.kept hb9)
                      have HB9 := Lib.hid (below_then HB8.out hb9)
                      clear hb9
                      go_wp2_with fail
                      obtain ⟨W7, hW7⟩ : ∃ W7 : World, W7 = w9.alloc (.cells #[.int .i64 a4, .int .i64 (bits .and .i64 a4 63), .int .i64 ((n2 : Int) - 1)] 3) := ⟨_, rfl⟩
                      have HI7 := Lib.hid (three_ints w9 a4 (bits .and .i64 a4 63) ((n2 : Int) - 1) 3)
                      have HB97 := Lib.hid (HB9.out.alloc HB9.out.size (.cells #[.int .i64 a4, .int .i64 (bits .and .i64 a4 63), .int .i64 ((n2 : Int) - 1)] 3))
                      have HR97 := Lib.hid (HR9.out.kept (below_alloc w9 (.cells #[.int .i64 a4, .int .i64 (bits .and .i64 a4 63), .int .i64 ((n2 : Int) - 1)] 3)))
                      rw [← hW7] at HI7 HB97 HR97 ⊢
                      clear hW7
                      go_loopw [153] (fun i wr => ∃ t : Nat, t ≤ 3 ∧ i = .int .i64 (t : Int) ∧ Below W7.heap.size W7 wr) (fun i _ => 3 - (intOf i).toNat)
                      case atStart => exact ⟨0, by omega, rfl, Below.refl _ _⟩
                      case round =>
                        obtain ⟨t2, ht2, rfl, hbel⟩ := hrel
                        have HBU := Lib.hid hbel
                        clear hbel
                        by_cases hlt4 : t2 < 3
                        · have hdt2 : decide ((t2 : Int) < 3) = true := by simp; omega
                          obtain ⟨ci, hc⟩ := HI7.out t2 hlt4
                          have hx := (HBU.out.cell (p := ⟨w9.heap.size, t2, none⟩) (World.block_lt_of_cell? _ _ hc)).trans hc
                          clear hc
                          have hcs := at_cases (o := o2) ci
                          rw [← HO2.out, ← HL2.out, ← HN2.out] at hcs
                          have HATC := Lib.hid (HAT.out wr ci (HB97.out.trans (HBU.out.mono HB97.out.size)))
                          obtain ⟨oa, hoa⟩ : ∃ oa, oa = atT o2 ci := ⟨_, rfl⟩
                          rw [← hoa] at hcs HATC
                          clear hoa
                          go_wp2_with fail
                          refine HATC.out.mono ?_
                          rintro e w10 ⟨hra, hb10⟩
                          have HBA10 := Lib.hid (below_then HBU.out hb10)
                          have HR10 := Lib.hid ((HR97.out.kept HBU.out).kept hb10)
                          clear hb10 hx
                          rcases hcs with ⟨rfl, hn | ⟨hn, hneg⟩ | ⟨hn, hpos, hge⟩⟩ | ⟨hn, jj, rfl, hjl, rfl⟩
                          · obtain rfl : e = _ := hra
                            obtain rfl : ob2 = false := hn
                            go_wp2_with fail
                            go_roundw
                            case rel => exact ⟨t2 + 1, by omega, by go_num, HBA10.out⟩
                            case measure => simp [intOf]; omega
                          · obtain rfl : e = _ := hra
                            obtain rfl : ob2 = true := hn
                            have g1 : ¬ (0 : Int) ≤ ci := by omega
                            have g2 : decide ((0 : Int) ≤ ci) = false := decide_eq_false g1
                            go_wp2_with fail
                            go_roundw
                            case rel => exact ⟨t2 + 1, by omega, by go_num, HBA10.out⟩
                            case measure => simp [intOf]; omega
                          · obtain rfl : e = _ := hra
                            obtain rfl : ob2 = true := hn
                            have g2 : decide ((0 : Int) ≤ ci) = true := decide_eq_true hpos
                            have g3 : ¬ ci < (n2 : Int) := by omega
                            have g4 : decide (ci < (n2 : Int)) = false := decide_eq_false g3
                            go_wp2_with fail
                            go_roundw
                            case rel => exact ⟨t2 + 1, by omega, by go_num, HBA10.out⟩
                            case measure => simp [intOf]; omega
                          · obtain ⟨z, hz⟩ : ∃ z, z = l2.getD jj 0 := ⟨_, rfl⟩
                            obtain ⟨bw, ow, rfl, hcw⟩ := (rd_i64_cells HR10.out).2 (by omega)
                            have hy := hcw jj hjl
                            rw [← hz] at hy hra
                            obtain rfl : e = _ := hra
                            obtain rfl : ob2 = true := hn
                            have g0 : (0 : Int) ≤ (jj : Int) := by omega
                            have g3 : (jj : Int) < (n2 : Int) := by omega
                            have g4 : decide ((jj : Int) < (n2 : Int)) = true := decide_eq_true g3
                            have hzz : (z != z) = false := bne_self_eq_false z
                            clear hcw hz
                            go_wp2_with fail
                            go_roundw
                            case rel => exact ⟨t2 + 1, by omega, by go_num, HBA10.out⟩
                            case measure => simp [intOf]; omega
                        · go_wp2_with fail
                          go_roundw
                          case rel => exact ⟨t + 1, by omega, by go_num, HB97.out.trans (HBU.out.mono HB97.out.size)⟩
                          case measure => simp [intOf]; omega
                    · go_wp2_with fail
                      go_roundw
                      case rel => exact ⟨j + 1, by omega, by go_num, HBW.out.trans (HBT.out.mono HBW.out.size)⟩
                      case measure => simp [intOf]; omega
                · go_wp2_with fail
                  go_roundw
                  case rel => exact ⟨jk + 1, by omega, by go_num, HB5.out.trans (HBJ.out.mono HB5.out.size)⟩
                  case measure => simp [intOf]; omega
        · go_wp2_with fail
          refine (awake4_any _).mono ?_
          rintro e w6 ⟨rfl, hb⟩
          have HB6 := Lib.hid (below_then (below_then HBW2.out HBO.out) hb)
          clear hb
          go_wp2_with fail
          go_ret
          exact ⟨rfl, HB6.out⟩
  · have hbr' : decide ((200 : Int) < (len3 : Int)) = true := by simp; omega
    clear hr3 hl3 h256 HC
    go_enter Try.func9, Try.ntmps9
    go_wp2_with fail
    refine (awake4_any _).mono ?_
    rintro e w6 ⟨rfl, hb⟩
    have HB6 := Lib.hid hb
    clear hb
    go_wp2_with fail
    go_ret
    exact ⟨rfl, HB6.out⟩


end Go.Proofs.Yteloepccjoikdaa
