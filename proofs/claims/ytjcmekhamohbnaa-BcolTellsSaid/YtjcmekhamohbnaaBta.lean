/-
  Contracts of layer 5: the reference's DecodeBytes, TellBytes, EncodeBytes; bcol.Encode of a column with a value too long; bcol.At of any place.
-/
import Derived.Test.YtjcmekhamohbnaaGtho
import Derived.Test.YtjcmekhamohbnaaBcolr
namespace Go.Proofs.Ytjcmekhamohbnaa.Bc
set_option linter.unusedVariables false
set_option linter.unusedSimpArgs false
open Go.RowKit

theorem by_get {bs : List Nat} {count : Int} {base : Nat} {e : Ending} {w' : World} (h256 : ∀ x ∈ bs, x < 256) (h : RetGetB base false bs count e w') :
    (∃ l v ps, decT bs count = some l ∧ e = .returned (.tuple #[v, .bool true]) ∧ Far base w' v ps ∧ xs ps = l) ∨ (decT bs count = none ∧ e = .returned (.tuple #[.slice none 0 0, .bool false])) := by
  cases bs with
  | nil => exact .inr ⟨rfl, h⟩
  | cons k r =>
    rcases h with ⟨L, hT, v, ps, he, hf, hx⟩ | ⟨hn, he⟩
    · exact .inl ⟨L, v, ps, (told_by hT).1, he, hf, hx⟩
    · refine .inr ⟨?_, he⟩
      cases hd : decT (k :: r) count with
      | none => rfl
      | some l => exact absurd (by_told (fun x hx => h256 x (List.mem_cons_of_mem _ hx)) hd) (hn _)
theorem decB_few {bs : List Nat} {c : Int} (h256 : ∀ x ∈ bs, x < 256) : ((decT bs c).getD []).length ≤ 65535 ∧ ∀ x ∈ (decT bs c).getD [], Fit x := by
  cases hd : decT bs c with
  | none => exact ⟨Nat.zero_le _, fun x hx => by simp at hx⟩
  | some l =>
    cases bs with
    | nil => cases hd
    | cons k r =>
      obtain ⟨_, _, _, h1, h2⟩ := dec_canon (fun x hx => h256 x (List.mem_cons_of_mem _ hx)) hd
      exact ⟨h1, h2⟩
def RetRow (o : Option (List By)) (n : Nat) (w : World) (e : Ending) (w' : World) : Prop :=
  ∃ ao cap ps, e = .returned (.tuple #[.slice ao n cap, .bool o.isSome]) ∧ Rd w' (.slice ao n cap) (vs ps) ∧ Els w' ps ∧ xs ps = o.getD [] ∧ Below w.heap.size w w'
theorem opt_row {o : Option (List By)} {w w' : World} {e : Ending} {base : Nat} (h : RetOpt base o e w' ∧ Below w.heap.size w w') : RetRow o (o.getD []).length w e w' := by
  obtain ⟨h, hb⟩ := h
  cases o with
  | none => exact ⟨none, 0, [], h, Rd.nil _, (fun p hp => by simp at hp), rfl, hb⟩
  | some l =>
    obtain ⟨v, ps, rfl, hown, hx⟩ := h
    obtain ⟨ao, cap, rfl⟩ := hown.row.shape
    have hl : ps.length = l.length := by rw [← len_xs, hx]
    have hrd := hown.row.rd
    have hels := hown.Els
    rw [hl] at hrd ⊢
    exact ⟨ao, cap, ps, rfl, hrd, hels, hx, hb⟩

set_option maxRecDepth 100000 in
set_option maxHeartbeats 8000000 in
theorem refdecodebytes_any (bs : List Nat) (bv : Value) (count : Int) (w : World) (hr : Rd w bv (bs.map u8v)) (h256 : ∀ x ∈ bs, x < 256) (hbig : bs.length ≤ 900000) :
    Calls Try.prog 11 #[bv, .int .i64 count] w (RetRow (decT bs count) ((decT bs count).getD []).length w) := by
  obtain ⟨ao, cap, rfl⟩ := rd_shape1 hr
  rw [List.length_map] at hr ⊢
  have HG := Lib.hid (get_any false bs count (.slice ao bs.length cap) w hr h256 hbig)
  obtain ⟨m, hm⟩ : ∃ m, m = bs.length := ⟨_, rfl⟩
  rw [← hm] at HG ⊢
  have H256 := Lib.hid h256
  clear hr h256 hbig hm
  go_enter Try.func11, Try.ntmps11
  go_wp2_with fail
  refine HG.out.mono ?_
  rintro e w2 ⟨hret, hb2⟩
  have HB2 := Lib.hid hb2
  rcases by_get H256.out hret with ⟨l, v, ps, hd, rfl, hfar, hxs⟩ | ⟨hd, rfl⟩
  · obtain ⟨av, cv, rfl⟩ := hfar.row.shape
    have hpl : ps.length = l.length := by rw [← len_xs, hxs]
    have HRD := Lib.hid hfar.row.rd
    have HEL := Lib.hid hfar.els
    obtain ⟨n, hn⟩ : ∃ n, n = ps.length := ⟨_, rfl⟩
    rw [← hn] at HRD ⊢
    have HNL := Lib.hid (show l.length = n by rw [hn, hpl])
    have HD := Lib.hid hd
    have HXS := Lib.hid hxs
    clear hret hb2 hd hfar hxs hpl hn HG
    go_wp2_with fail
    go_ret2
    rw [HD.out]
    show RetRow (some l) l.length w _ _
    rw [HNL.out]
    exact ⟨av, cv, ps, rfl, HRD.out, HEL.out, HXS.out, HB2.out⟩
  · have HD := Lib.hid hd
    clear hret hb2 hd HG
    go_wp2_with fail
    go_ret2
    rw [HD.out]
    exact ⟨none, 0, [], rfl, Rd.nil _, (fun p hp => by simp at hp), rfl, HB2.out⟩

theorem short_long (l : List By) : (l.all fun x => decide (x.length ≤ 64)) = !(l.any fun x => decide (64 < x.length)) := by
  induction l with
  | nil => rfl
  | cons x r ih =>
    rw [List.all_cons, List.any_cons, ih, Bool.not_or]
    congr 1
    by_cases h : x.length ≤ 64
    · rw [decide_eq_true h, decide_eq_false (by omega)]; rfl
    · rw [decide_eq_false h, decide_eq_true (by omega)]; rfl
theorem gTell_by (k : Int) {l : List By} (h : (l.any fun x => decide (64 < x.length)) = false) : gTell false k l = tellT k l := by
  unfold gTell tellT
  by_cases hc : 65535 < l.length ∨ k < 1 ∨ 4 < k ∨ k = 3
  · rw [if_pos (by rcases hc with h | h | h | h <;> simp [h]), if_pos (by rcases hc with h | h | h | h <;> simp [h])]
  · simp only [not_or] at hc
    obtain ⟨h1, h2, h3, h4⟩ := hc
    rw [if_neg (by rintro (h | h | h | ⟨h, _⟩); exact h1 h; exact h2 h; exact h3 h; exact h4 h), if_neg (by rw [h]; rintro (h | h | h | h | h); exact h1 h; exact h2 h; exact h3 h; exact h4 h; cases h), gKind_by h4]

set_option maxRecDepth 100000 in
set_option maxHeartbeats 8000000 in
theorem reftellbytes_any (k : Int) (ps : Row) (lv : Value) (w : World) (h8 : ∀ x ∈ xs ps, ∀ a ∈ x, a < 256) (hl : ps.length ≤ 100000) (hr : Rd w lv (vs ps)) (he : Els w ps) :
    Calls Try.prog 9 #[.int .i64 k, lv] w fun e w' => RetTell w.heap.size (tellT k (xs ps)) e w' ∧ Below w.heap.size w w' := by
  obtain ⟨ao, cap, rfl⟩ := rd_shape1 hr
  have HS := Lib.hid (refshort_any ps _ w (by omega) hr he)
  rw [short_long] at HS
  obtain ⟨A, hA⟩ : ∃ A, A = (xs ps).any fun x => decide (64 < x.length) := ⟨_, rfl⟩
  rw [← hA] at HS
  rw [len_vs] at hr HS ⊢
  cases A with
  | true =>
    have HT := Lib.hid (show tellT k (xs ps) = none from by unfold tellT; rw [if_pos (.inr (.inr (.inr (.inr hA.symm))))])
    obtain ⟨n, hn⟩ : ∃ n, n = ps.length := ⟨_, rfl⟩
    rw [← hn] at HS ⊢
    clear hr he h8 hl hA hn
    go_enter Try.func9, Try.ntmps9
    go_wp2_with fail
    refine HS.out.mono ?_
    rintro e w2 ⟨rfl, rfl⟩
    go_wp2_with fail
    go_ret2
    rw [HT.out]
    exact ⟨rfl, Below.refl _ _⟩
  | false =>
    have hok : ∀ x ∈ xs ps, OkT false x := fun x hx => ⟨h8 x hx, by
      have h := hA.symm
      rw [List.any_eq_false] at h
      have := h x hx
      simpa using this, fun e => by cases e⟩
    have HT := Lib.hid (rtell_any false k ps (.slice ao ps.length cap) w hok hr he)
    rw [gTell_by k hA.symm] at HT
    obtain ⟨o, ho⟩ : ∃ o, o = tellT k (xs ps) := ⟨_, rfl⟩
    rw [← ho] at HT ⊢
    obtain ⟨n, hn⟩ : ∃ n, n = ps.length := ⟨_, rfl⟩
    rw [← hn] at HS HT ⊢
    clear hr he h8 hl hA hn hok ho
    go_enter Try.func9, Try.ntmps9
    go_wp2_with fail
    refine HS.out.mono ?_
    rintro e w2 ⟨rfl, rfl⟩
    go_wp2_with fail
    refine HT.out.mono ?_
    rintro e w3 ⟨hret, hb3⟩
    have HB3 := Lib.hid hb3
    cases o with
    | none =>
      obtain rfl : e = _ := hret
      clear hb3
      go_wp2_with fail
      go_ret2
      exact ⟨rfl, HB3.out⟩
    | some bs =>
      obtain ⟨v3, rfl, hown⟩ := hret
      have HO := Lib.hid hown
      clear hb3 hown
      go_wp2_with fail
      go_ret2
      exact ⟨⟨v3, rfl, HO.out⟩, HB3.out⟩

def encB (l : List By) : List Nat := if (l.any fun x => decide (64 < x.length)) = true then [] else bestN l 4
theorem bestG_by {l : List By} (h : (l.any fun x => decide (64 < x.length)) = false) (hl : l.length ≤ 65535) : ∀ q, q ≤ 4 → bestG false l q = bestN l q
  | 0, _ => rfl
  | q + 1, hq => by
    have ih := bestG_by h hl q (by omega)
    have e0 : (bestN l q).length = 0 ↔ q = 0 := by
      constructor
      · intro h0
        rcases Nat.eq_zero_or_pos q with h1 | h1
        · exact h1
        · obtain ⟨⟨k, _, _, _, hk⟩, _⟩ := bestN_ok l q h1
          rw [hk] at h0
          simp at h0
      · intro h0; subst h0; rfl
    unfold bestG bestN
    by_cases h2 : q = 2
    · subst h2
      have hg : gTell false (((2 : Nat) : Int) + 1) l = none := by unfold gTell; rw [if_pos (.inr (.inr (.inr ⟨rfl, rfl⟩)))]
      rw [hg, if_pos rfl]
      exact ih
    · have hg : gTell false ((q : Int) + 1) l = some ((q + 1) :: kindT ((q : Int) + 1) l) := by
        rw [gTell_by _ h]
        unfold tellT
        rw [if_neg (by rw [h]; rintro (h | h | h | h | h); omega; omega; omega; omega; cases h)]
        rfl
      rw [hg, if_neg h2, ih]
      show (if _ then _ else _) = _
      by_cases hc : q = 0 ∨ ((q + 1) :: kindT ((q : Int) + 1) l).length < (bestN l q).length
      · rw [if_pos (by rcases hc with h | h; exact .inl (e0.2 h); exact .inr h), if_pos hc]
      · rw [if_neg (by rintro (h | h); exact hc (.inl (e0.1 h)); exact hc (.inr h)), if_neg hc]

set_option maxRecDepth 100000 in
set_option maxHeartbeats 8000000 in
theorem refencodebytes_any (ps : Row) (lv : Value) (w : World) (h8 : ∀ x ∈ xs ps, ∀ a ∈ x, a < 256) (hl : ps.length ≤ 300) (hr : Rd w lv (vs ps)) (he : Els w ps) :
    Calls Try.prog 7 #[lv] w fun e w' => ∃ v, e = .returned v ∧ OwnB w.heap.size w' v (encB (xs ps)) ∧ Below w.heap.size w w' := by
  obtain ⟨ao, cap, rfl⟩ := rd_shape1 hr
  have HS := Lib.hid (refshort_any ps _ w (by omega) hr he)
  rw [short_long] at HS
  obtain ⟨A, hA⟩ : ∃ A, A = (xs ps).any fun x => decide (64 < x.length) := ⟨_, rfl⟩
  rw [← hA] at HS
  rw [len_vs] at hr HS ⊢
  cases A with
  | true =>
    have HT := Lib.hid (show encB (xs ps) = [] from by unfold encB; rw [if_pos hA.symm])
    obtain ⟨n, hn⟩ : ∃ n, n = ps.length := ⟨_, rfl⟩
    rw [← hn] at HS ⊢
    clear hr he h8 hl hA hn
    go_enter Try.func7, Try.ntmps7
    go_wp2_with fail
    refine HS.out.mono ?_
    rintro e w2 ⟨rfl, rfl⟩
    go_wp2_with fail
    go_ret
    rw [HT.out]
    exact ⟨_, rfl, ownB_nil _ _, Below.refl _ _⟩
  | false =>
    have hok : ∀ x ∈ xs ps, OkT false x := fun x hx => ⟨h8 x hx, by
      have h := hA.symm
      rw [List.any_eq_false] at h
      have := h x hx
      simpa using this, fun e => by cases e⟩
    have HT := Lib.hid (refbest_any false ps (.slice ao ps.length cap) w hok hr he)
    rw [bestG_by hA.symm (by rw [len_xs]; omega) 4 (by omega)] at HT
    have HE := Lib.hid (show encB (xs ps) = bestN (xs ps) 4 from by unfold encB; rw [if_neg (by rw [← hA]; decide)])
    obtain ⟨n, hn⟩ : ∃ n, n = ps.length := ⟨_, rfl⟩
    rw [← hn] at HS HT ⊢
    clear hr he h8 hl hA hn hok
    go_enter Try.func7, Try.ntmps7
    go_wp2_with fail
    refine HS.out.mono ?_
    rintro e w2 ⟨rfl, rfl⟩
    go_wp2_with fail
    refine HT.out.mono ?_
    rintro e w3 ⟨v3, rfl, hown, hb3⟩
    have HO := Lib.hid hown
    have HB3 := Lib.hid hb3
    clear hown hb3
    go_wp2_with fail
    go_ret
    rw [HE.out]
    exact ⟨_, rfl, HO.out, HB3.out⟩

set_option maxRecDepth 100000 in
set_option maxHeartbeats 8000000 in
theorem enc1_far (k : Int) (X : Nat) (ps : Row) (lv : Value) (w : World) (h8 : ∀ x ∈ xs ps, ∀ a ∈ x, a < 256) (hA : ((xs ps).any fun x => decide (64 < x.length)) = true) (hl : ps.length ≤ 300) (hr : Rd w lv (vs ps)) (he : Els w ps) (hx : w.cell? ⟨X, 0, none⟩ = some lv) :
    Calls Try.prog 15 #[.int .i64 k, .pointer (some ⟨X, 0, none⟩)] w fun e w' => e = .returned (.tuple #[.slice none 0 0, .bool false]) ∧ Below w.heap.size w w' := by
  obtain ⟨ao, cap, rfl⟩ := rd_shape1 hr
  rw [len_vs] at hr hx
  have hT := tell_any k ps (.slice ao ps.length cap) w h8 (by omega) hr he
  have ht : tellT k (xs ps) = none := by unfold tellT; rw [if_pos (.inr (.inr (.inr (.inr hA))))]
  rw [ht] at hT
  obtain ⟨n, hn⟩ : ∃ n, n = ps.length := ⟨_, rfl⟩
  rw [← hn] at hT hx
  have HT := Lib.hid hT
  clear hT hr hl hn h8 he ht hA
  go_enter Try.func15, Try.ntmps15
  go_wp2_with fail
  refine HT.out.mono ?_
  rintro e w2 ⟨hret, hb⟩
  obtain rfl : e = .returned (.tuple #[.slice none 0 0, .bool false]) := hret
  have HB := Lib.hid hb
  clear hb
  go_wp2_with fail
  go_ret2
  exact ⟨rfl, HB.out⟩

set_option maxRecDepth 100000 in
set_option maxHeartbeats 8000000 in
theorem shortest_far (X : Nat) (ps : Row) (lv : Value) (w : World) (h8 : ∀ x ∈ xs ps, ∀ a ∈ x, a < 256) (hA : ((xs ps).any fun x => decide (64 < x.length)) = true) (hl : ps.length ≤ 300) (hr : Rd w lv (vs ps)) (he : Els w ps) (hx : w.cell? ⟨X, 0, none⟩ = some lv) :
    Calls Try.prog 14 #[.int .i64 4, .func (.func 15) #[] #[.pointer (some ⟨X, 0, none⟩)]] w fun e w' => e = .returned (.slice none 0 0) ∧ Below w.heap.size w w' := by
  have HE := Lib.hid fun (k : Int) w' (hb : Below w.heap.size w w') => enc1_far k X ps lv w' h8 hA hl (hr.kept hb) (he.kept hb) ((hb.cell (World.block_lt_of_cell? _ _ hx)).trans hx)
  clear h8 hA hl hr hx he
  go_enter Try.func14, Try.ntmps14
  go_wp2_with fail
  go_loopw [5, 6] (fun b k wr => ∃ q : Nat, q ≤ 4 ∧ k = .int .i64 ((q : Int) + 1) ∧ b = .slice none 0 0 ∧ Below w.heap.size w wr) (fun _ k _ => 5 - (intOf k).toNat)
  case atStart => exact ⟨0, by omega, rfl, rfl, Below.refl _ _⟩
  case round =>
    obtain ⟨q, hq, rfl, rfl, hbel⟩ := hrel
    have HB := Lib.hid hbel
    clear hbel
    by_cases hq4 : q < 4
    · have hk1 : (q : Int) + 1 ≤ 4 := by omega
      have HC := Lib.hid (HE.out ((q : Int) + 1) wr HB.out)
      go_wp2_with fail
      refine HC.out.mono ?_
      rintro e w2 ⟨rfl, hb2⟩
      have HB2 := Lib.hid (below_then HB.out hb2)
      clear hb2
      go_wp2_with fail
      go_roundw
      case rel => exact ⟨q + 1, by omega, by go_num, rfl, HB2.out⟩
      case measure => simp [intOf]; omega
    · have hk1 : ¬ (q : Int) + 1 ≤ 4 := by omega
      go_wp2_with fail
      go_ret
      exact ⟨rfl, HB.out⟩

set_option maxRecDepth 100000 in
set_option maxHeartbeats 8000000 in
theorem encode_far (ps : Row) (lv : Value) (w : World) (h8 : ∀ x ∈ xs ps, ∀ a ∈ x, a < 256) (hA : ((xs ps).any fun x => decide (64 < x.length)) = true) (hl : ps.length ≤ 300) (hr : Rd w lv (vs ps)) (he : Els w ps) :
    Calls Try.prog 6 #[lv] w fun e w' => e = .returned (.slice none 0 0) ∧ Below w.heap.size w w' := by
  obtain ⟨ao, cap, rfl⟩ := rd_shape1 hr
  obtain ⟨n, hn⟩ : ∃ n, n = ps.length := ⟨_, rfl⟩
  rw [len_vs, ← hn] at hr ⊢
  obtain ⟨W1, hW1⟩ : ∃ W1 : World, W1 = w.alloc (.cells #[.slice ao n cap] 22) := ⟨_, rfl⟩
  have hb1 : Below w.heap.size w W1 := by rw [hW1]; exact below_alloc w _
  have hx : W1.cell? ⟨w.heap.size, 0, none⟩ = some (.slice ao n cap) := by rw [hW1, cell_of_row _ w.heap.size 0 _ _ _ (heap_alloc_new w _)]; rfl
  have HS := Lib.hid (shortest_far w.heap.size ps (.slice ao n cap) W1 h8 hA (by omega) (hr.kept hb1) (he.kept hb1) hx)
  have HB1 := Lib.hid hb1
  have HW1 := Lib.hid hW1
  clear hr hn hb1 hx hW1 he h8 hA hl
  go_enter Try.func6, Try.ntmps6
  go_upto_region 1 with (fail)
  rw [← HW1.out]
  go_wp2_with fail
  refine HS.out.mono ?_
  rintro e w2 ⟨rfl, hb⟩
  have HB := Lib.hid hb
  clear hb
  go_wp2_with fail
  go_ret
  exact ⟨rfl, below_then HB1.out HB.out⟩

theorem encode_all (ps : Row) (lv : Value) (w : World) (h8 : ∀ x ∈ xs ps, ∀ a ∈ x, a < 256) (hl : ps.length ≤ 300) (hr : Rd w lv (vs ps)) (he : Els w ps) :
    Calls Try.prog 6 #[lv] w fun e w' => ∃ v, e = .returned v ∧ OwnB w.heap.size w' v (encB (xs ps)) ∧ Below w.heap.size w w' := by
  by_cases hA : ((xs ps).any fun x => decide (64 < x.length)) = true
  · refine (encode_far ps lv w h8 hA hl hr he).mono ?_
    rintro e w' ⟨rfl, hb⟩
    refine ⟨_, rfl, ?_, hb⟩
    unfold encB
    rw [if_pos hA]
    exact ownB_nil _ _
  · have hF : ∀ x ∈ xs ps, Fit x := fun x hx => ⟨h8 x hx, by
      have h : ((xs ps).any fun x => decide (64 < x.length)) = false := by simpa using hA
      rw [List.any_eq_false] at h
      have := h x hx
      simpa using this⟩
    refine (encode_b ps lv w hF hl hr he).mono ?_
    rintro e w' ⟨v, rfl, ho, hb⟩
    refine ⟨v, rfl, ?_, hb⟩
    unfold encB
    rw [if_neg hA]
    exact ho
theorem encB_lt {l : List By} (h8 : ∀ x ∈ l, ∀ a ∈ x, a < 256) (hl : l.length ≤ 300) : ∀ x ∈ encB l, x < 256 := by
  unfold encB
  split
  · exact fun x hx => by simp at hx
  · next hA =>
    exact (best_dec l (fun x hx => ⟨h8 x hx, by
      have h : (l.any fun x => decide (64 < x.length)) = false := by simpa using hA
      rw [List.any_eq_false] at h
      have := h x hx
      simpa using this⟩) hl).2.1

def atB (o : Option (List By)) (i : Int) : Option By := match o with
  | none => none
  | some l => if i < 0 ∨ (l.length : Int) ≤ i then none else some (l.getD i.toNat [])
def RetAtB (o : Option By) (e : Ending) (w' : World) : Prop := ∃ av cv, e = .returned (.tuple #[.slice av (o.getD []).length cv, .bool o.isSome]) ∧ Rd w' (.slice av (o.getD []).length cv) ((o.getD []).map u8v)
theorem atB_cases {o : Option (List By)} (i : Int) : (atB o i = none ∧ (o.isSome = false ∨ (o.isSome = true ∧ i < 0) ∨ (o.isSome = true ∧ 0 ≤ i ∧ ((o.getD []).length : Int) ≤ i))) ∨ (o.isSome = true ∧ ∃ j : Nat, i = (j : Int) ∧ j < (o.getD []).length ∧ atB o i = some ((o.getD []).getD j [])) := by
  cases o with
  | none => exact .inl ⟨rfl, .inl rfl⟩
  | some l =>
    by_cases h : i < 0 ∨ (l.length : Int) ≤ i
    · have e : atB (some l) i = none := by unfold atB; simp only; rw [if_pos h]
      refine .inl ⟨e, .inr ?_⟩
      by_cases h1 : i < 0
      · exact .inl ⟨rfl, h1⟩
      · exact .inr ⟨rfl, by omega, show (l.length : Int) ≤ i from by omega⟩
    · have e : atB (some l) i = some (l.getD i.toNat []) := by unfold atB; simp only; rw [if_neg h]
      exact .inr ⟨rfl, i.toNat, by omega, show i.toNat < l.length from by omega, e⟩

set_option maxRecDepth 100000 in
set_option maxHeartbeats 8000000 in
theorem atB_all (bs : List Nat) (bv : Value) (count i : Int) (w : World) (hr : Rd w bv (bs.map u8v)) (h256 : ∀ x ∈ bs, x < 256) (hbig : bs.length ≤ 900000) :
    Calls Try.prog 13 #[bv, .int .i64 count, .int .i64 i] w fun e w' => RetAtB (atB (decT bs count) i) e w' ∧ Below w.heap.size w w' := by
  obtain ⟨ao, cap, rfl⟩ := rd_shape1 hr
  rw [List.length_map] at hr ⊢
  have hD := decode_b bs (.slice ao bs.length cap) count w hr h256 (by omega)
  obtain ⟨o, ho⟩ : ∃ o, o = decT bs count := ⟨_, rfl⟩
  rw [← ho] at hD ⊢
  obtain ⟨m, hm⟩ : ∃ m, m = bs.length := ⟨_, rfl⟩
  rw [← hm] at hD ⊢
  have HD := Lib.hid hD
  clear hr h256 hbig hD hm ho
  go_enter Try.func13, Try.ntmps13
  go_wp2_with fail
  refine HD.out.mono ?_
  rintro e w2 ⟨hret, hb⟩
  have HB := Lib.hid hb
  cases o with
  | none =>
    obtain rfl : e = _ := hret
    clear hb HD
    go_wp2_with fail
    go_ret2
    exact ⟨⟨none, 0, rfl, Rd.nil _⟩, HB.out⟩
  | some l =>
    obtain ⟨v, ps, rfl, hown, hxs⟩ := hret
    obtain ⟨ao2, k2, rfl⟩ := hown.row.shape
    obtain ⟨n, hn⟩ : ∃ n, n = ps.length := ⟨_, rfl⟩
    have hrd := hown.row.rd
    rw [← hn] at hrd ⊢
    have HN := Lib.hid hn
    have HNL := Lib.hid (show n = l.length by rw [hn, ← len_xs, hxs])
    have HRD := Lib.hid hrd
    have HEL := Lib.hid hown.Els
    have HXS := Lib.hid hxs
    clear hb hown hn HD hrd hxs
    by_cases hneg : i < 0
    · have HA := Lib.hid (show atB (some l) i = none from by unfold atB; simp only; rw [if_pos (.inl hneg)])
      have h1 : decide (i < 0) = true := decide_eq_true hneg
      go_wp2_with fail
      go_ret2
      rw [HA.out]
      exact ⟨⟨none, 0, rfl, Rd.nil _⟩, HB.out⟩
    · have h1 : decide (i < 0) = false := decide_eq_false hneg
      obtain ⟨j, rfl⟩ : ∃ j : Nat, i = (j : Int) := ⟨i.toNat, by omega⟩
      have hj0 : (0 : Int) ≤ (j : Int) := by omega
      by_cases hge : n ≤ j
      · have HA := Lib.hid (show atB (some l) (j : Int) = none from by unfold atB; simp only; rw [if_pos (.inr (by rw [← HNL.out]; omega))])
        have hgei : (n : Int) ≤ (j : Int) := by omega
        have h2 : decide ((n : Int) ≤ (j : Int)) = true := decide_eq_true hgei
        have h3 : decide ((j : Int) < (n : Int)) = false := decide_eq_false (by omega)
        go_wp2_with fail
        go_ret2
        rw [HA.out]
        exact ⟨⟨none, 0, rfl, Rd.nil _⟩, HB.out⟩
      · have hgei : ¬ (n : Int) ≤ (j : Int) := by omega
        have hlti : (j : Int) < (n : Int) := by omega
        have h2 : decide ((n : Int) ≤ (j : Int)) = false := decide_eq_false hgei
        have h3 : decide ((j : Int) < (n : Int)) = true := decide_eq_true hlti
        obtain ⟨b4, o4, rfl, hc4⟩ := (rdv_cells HRD.out).2 (by omega)
        obtain ⟨ya, yc, y, hy, hye⟩ := row_at HEL.out (q := j) (by rw [← HN.out]; omega)
        have hx1 : w2.cell? ⟨b4, o4 + j, none⟩ = some (.slice ya (List.length y) yc) := hc4 j _ hy
        have HA := Lib.hid (show atB (some l) (j : Int) = some y from by
          have h := xs_at hy
          rw [HXS.out] at h
          unfold atB
          simp only
          rw [if_neg (by rw [← HNL.out]; omega), Int.toNat_natCast, List.getD_eq_getElem?_getD, h]
          rfl)
        have HYE := Lib.hid hye
        clear hc4 hy hye
        go_wp2_with fail
        go_ret2
        rw [HA.out]
        exact ⟨⟨_, _, rfl, HYE.out⟩, HB.out⟩


end Go.Proofs.Ytjcmekhamohbnaa.Bc
