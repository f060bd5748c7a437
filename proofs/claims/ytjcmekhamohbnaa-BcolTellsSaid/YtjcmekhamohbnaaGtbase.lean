/-
  Plain: the reference's reading of a column: values, and what must be read where it was told.
  The reference's Reader, with its bytes below B; Num, whatever its state.
  Contracts of the reference: Reader.Bytes, value, short.
  Contracts of the reference: what get answers.
-/
import Derived.Test.YtjcmekhamohbnaaTxej
import Derived.Test.YtjcmekhamohbnaaTxmm
import Derived.Test.YtjcmekhamohbnaaIcola
namespace Go.Proofs.Ytjcmekhamohbnaa.Bc
set_option linter.unusedVariables false
set_option linter.unusedSimpArgs false
open Go.RowKit

theorem numQ_num (u : Nat) (rest : List Nat) (hu : u < 18446744073709551616) : numQ (numC u ++ rest) false = (u, rest, false) := by
  unfold numQ
  rw [if_neg (by simp), nextC_num u rest hu]
  simp
theorem numQ_mem {left : List Nat} {bad : Bool} (h : ∀ x ∈ left, x < 256) : ∀ x ∈ (numQ left bad).2.1, x < 256 := by
  unfold numQ
  split
  · exact h
  · split
    · exact h
    · exact fun x hx => h x (List.mem_of_mem_drop hx)
theorem numQ_len (left : List Nat) (bad : Bool) : (numQ left bad).2.1.length ≤ left.length := by
  unfold numQ
  split
  · exact Nat.le_refl _
  · split
    · exact Nat.le_refl _
    · simp only [List.length_drop]; omega
def bytesQ (left : List Nat) (bad : Bool) : By × List Nat × Bool :=
  if (numQ left bad).2.2 = true ∨ 64 < (numQ left bad).1 ∨ (numQ left bad).2.1.length < (numQ left bad).1 then ([], (numQ left bad).2.1, true)
  else ((numQ left bad).2.1.take (numQ left bad).1, (numQ left bad).2.1.drop (numQ left bad).1, false)
def valQ (nums : Bool) (left : List Nat) (bad : Bool) : By × List Nat × Bool :=
  if nums = true then (textT (zagN (numQ left bad).1), (numQ left bad).2) else bytesQ left bad
theorem okT_text (nums : Bool) {z : Int} (h : I64 z) : OkT nums (textT z) := ⟨textT_lt z, by rw [textT_len]; decide, fun _ => ⟨z, h, rfl⟩⟩
theorem valQ_ok (nums : Bool) {left : List Nat} {bad : Bool} (h : ∀ x ∈ left, x < 256) : OkT nums (valQ nums left bad).1 := by
  unfold valQ
  cases nums
  · rw [if_neg (by simp)]
    unfold bytesQ
    split
    · exact ⟨fun a ha => by simp at ha, by simp, fun e => by cases e⟩
    · rename_i hc
      refine ⟨fun a ha => numQ_mem h a (List.mem_of_mem_take ha), ?_, fun e => by cases e⟩
      simp only [List.length_take]
      omega
  · rw [if_pos rfl]
    exact okT_text true (zag_i64 (numQ_lt left bad))
theorem valQ_mem {nums : Bool} {left : List Nat} {bad : Bool} (h : ∀ x ∈ left, x < 256) : ∀ x ∈ (valQ nums left bad).2.1, x < 256 := by
  unfold valQ
  split
  · exact numQ_mem h
  · unfold bytesQ
    split
    · exact numQ_mem h
    · exact fun x hx => numQ_mem h x (List.mem_of_mem_drop hx)
theorem valQ_len (nums : Bool) (left : List Nat) (bad : Bool) : (valQ nums left bad).2.1.length ≤ left.length := by
  have h := numQ_len left bad
  unfold valQ
  split
  · exact h
  · unfold bytesQ
    split
    · exact h
    · simp only [List.length_drop]; omega
theorem valQ_tol {nums : Bool} {x : By} (rest : List Nat) (h : OkT nums x) : valQ nums (tolT nums x ++ rest) false = (x, rest, false) := by
  cases nums
  · have e : tolT false x = numC x.length ++ x := rfl
    unfold valQ
    rw [if_neg (by simp), e, List.append_assoc]
    unfold bytesQ
    rw [numQ_num x.length _ (by have := h.2.1; omega)]
    simp only
    rw [if_neg, List.take_left, List.drop_left]
    rintro (h1 | h1 | h1)
    · cases h1
    · have := h.2.1; omega
    · rw [List.length_append] at h1; omega
  · obtain ⟨z, hz, rfl⟩ := h.2.2 rfl
    unfold valQ
    rw [if_pos rfl, tol_text hz]
    unfold Go.Proofs.Ytjcmekhamohbnaa.putT
    rw [numQ_num _ _ (zigN_lt hz)]
    simp only [zag_zig]

structure Told (nums : Bool) (k : Nat) (r : List Nat) (count : Int) (L : List By) : Prop where
  kk : 1 ≤ k ∧ k ≤ 4 ∧ (k = 3 → nums = true)
  len : (L.length : Int) = count
  le : L.length ≤ 65535
  ok : ∀ x ∈ L, OkT nums x
  eq : r = gKind nums (k : Int) L
theorem Told.tell {nums : Bool} {k : Nat} {r : List Nat} {count : Int} {L : List By} (h : Told nums k r count L) : gTell nums (k : Int) L = some (k :: r) := by
  obtain ⟨h1, h2, h3⟩ := h.kk
  unfold gTell
  rw [if_neg, Int.toNat_natCast, ← h.eq]
  rintro (h4 | h4 | h4 | ⟨h4, h5⟩)
  · have := h.le; omega
  · omega
  · omega
  · rw [h3 (by omega)] at h5; cases h5
theorem told_of {nums : Bool} {k : Nat} {r : List Nat} {count : Int} {L : List By} (h : gTell nums (k : Int) L = some (k :: r)) (hl : (L.length : Int) = count) (hok : ∀ x ∈ L, OkT nums x) : Told nums k r count L := by
  unfold gTell at h
  split at h
  · cases h
  · next hc =>
    simp only [not_or, not_and] at hc
    obtain ⟨h1, h2, h3, h4⟩ := hc
    simp only [Option.some.injEq, List.cons.injEq] at h
    refine ⟨⟨by omega, by omega, fun e => ?_⟩, hl, by omega, hok, h.2.symm⟩
    have := h4 (by omega)
    simpa using this
theorem tx_of {L : List By} (h : ∀ x ∈ L, OkT true x) : TX (L.map num64) = L ∧ ∀ n ∈ L.map num64, I64 n := by
  refine ⟨?_, fun n hn => ?_⟩
  · unfold TX
    rw [List.map_map]
    have : ∀ x ∈ L, (textT ∘ num64) x = x := fun x hx => by
      obtain ⟨z, hz, rfl⟩ := (h x hx).2.2 rfl
      show textT (num64 (textT z)) = textT z
      rw [num64_text hz]
    rw [List.map_congr_left this, List.map_id']
  · obtain ⟨x, hx, rfl⟩ := List.mem_map.1 hn
    obtain ⟨z, hz, rfl⟩ := (h x hx).2.2 rfl
    rw [num64_text hz]
    exact hz
def Fin (nums : Bool) (k : Nat) (r : List Nat) (count : Int) (X : List By) (bad : Bool) : Prop := ∀ L, Told nums k r count L → X = L ∧ bad = false
def NoTold (nums : Bool) (k : Nat) (r : List Nat) (count : Int) : Prop := ∀ L, ¬ Told nums k r count L
theorem fin_yes {nums : Bool} {k : Nat} {r : List Nat} {count : Int} {X : List By} {bs : List Nat} (ho : gTell nums (k : Int) X = some bs) (hl : (X.length : Int) = count) (hok : ∀ x ∈ X, OkT nums x) (he : bs = k :: r) : Told nums k r count X := told_of (by rw [ho, he]) hl hok
theorem fin_bad {nums : Bool} {k : Nat} {r : List Nat} {count : Int} {X : List By} {bad : Bool} (h : Fin nums k r count X bad) (hb : bad = true) : NoTold nums k r count := fun L hL => by
  have := (h L hL).2
  rw [hb] at this
  cases this
theorem fin_none {nums : Bool} {k : Nat} {r : List Nat} {count : Int} {X : List By} {bad : Bool} (h : Fin nums k r count X bad) (ho : gTell nums (k : Int) X = none) : NoTold nums k r count := fun L hL => by
  have h1 := hL.tell
  rw [← (h L hL).1, ho] at h1
  cases h1
theorem fin_len {nums : Bool} {k : Nat} {r : List Nat} {count : Int} {X : List By} {bad : Bool} (h : Fin nums k r count X bad) (hl : (X.length : Int) ≠ count) : NoTold nums k r count := fun L hL => by
  rw [(h L hL).1] at hl
  exact hl hL.len
theorem fin_un {nums : Bool} {k : Nat} {r : List Nat} {count : Int} {X : List By} {bad : Bool} {bs : List Nat} (h : Fin nums k r count X bad) (ho : gTell nums (k : Int) X = some bs) (he : bs ≠ k :: r) : NoTold nums k r count := fun L hL => by
  have h1 := hL.tell
  rw [← (h L hL).1, ho] at h1
  exact he (Option.some.inj h1)
theorem not_count {nums : Bool} {k : Nat} {r : List Nat} {count : Int} (h : count < 0 ∨ 65535 < count) : NoTold nums k r count := fun L hL => by
  have := hL.len
  have := hL.le
  omega
theorem fin_odd {nums : Bool} {k : Nat} {r : List Nat} {count : Int} {X : List By} {bad : Bool} (h : k < 1 ∨ 4 < k) : Fin nums k r count X bad := fun L hL => by
  have := hL.kk
  omega

theorem fin_not {nums : Bool} {k : Nat} {r : List Nat} {count : Int} {X : List By} {bad : Bool} (h : NoTold nums k r count) : Fin nums k r count X bad := fun L hL => absurd hL (h L)
theorem gTell_lt {nums : Bool} {k : Nat} {X : List By} {bs : List Nat} (h : gTell nums (k : Int) X = some bs) (hok : ∀ x ∈ X, OkT nums x) : ∀ x ∈ bs, x < 256 := by
  unfold gTell at h
  split at h
  · cases h
  · next hc =>
    simp only [not_or, not_and] at hc
    obtain ⟨h1, h2, h3, h4⟩ := hc
    simp only [Option.some.injEq] at h
    rw [← h]
    intro x hx
    rcases List.mem_cons.1 hx with rfl | hx
    · omega
    · cases nums
      · have e : gKind false (k : Int) X = kindT (k : Int) X := by
          unfold gKind kindT
          rw [if_neg (show ¬ (k : Int) = 3 from fun e => h4 e rfl)]
          rfl
        rw [e] at hx
        exact kindT_lt (k : Int) X (fun y hy => ⟨(hok y hy).1, (hok y hy).2.1⟩) (by omega) x hx
      · obtain ⟨hT, hI⟩ := tx_of hok
        rw [← hT, gKind_num _ hI] at hx
        exact Go.Proofs.Ytjcmekhamohbnaa.kindT_lt (k : Int) _ hI (by rw [List.length_map]; omega) x hx

/-! One behind the other. -/
def C1 (nums : Bool) (r : List Nat) (count : Int) (X : List By) (left : List Nat) (bad : Bool) (i : Nat) : Prop := ∀ L, Told nums 1 r count L → X = L.take i ∧ left = gPlain nums (L.drop i) ∧ bad = false
theorem c1_start (nums : Bool) (r : List Nat) (count : Int) : C1 nums r count [] r false 0 := fun L h => ⟨rfl, by rw [h.eq]; rfl, rfl⟩
theorem c1_step {nums : Bool} {r : List Nat} {count : Int} {X : List By} {left : List Nat} {bad : Bool} {i : Nat} (h : C1 nums r count X left bad i) (hi : (i : Int) < count) : C1 nums r count (X ++ [(valQ nums left bad).1]) (valQ nums left bad).2.1 (valQ nums left bad).2.2 (i + 1) := fun L hL => by
  obtain ⟨h1, h2, h3⟩ := h L hL
  have hil : i < L.length := by have := hL.len; omega
  have hd : L.drop i = L[i] :: L.drop (i + 1) := List.drop_eq_getElem_cons hil
  have e : left = tolT nums L[i] ++ gPlain nums (L.drop (i + 1)) := by rw [h2, hd]; unfold gPlain; rw [List.map_cons, List.flatten_cons]
  have hv := valQ_tol (gPlain nums (L.drop (i + 1))) (hL.ok _ (List.getElem_mem hil))
  rw [e, h3, hv]
  exact ⟨by rw [h1, List.take_succ_eq_append_getElem hil], rfl, rfl⟩
theorem c1_end {nums : Bool} {r : List Nat} {count : Int} {X : List By} {left : List Nat} {bad : Bool} {i : Nat} (h : C1 nums r count X left bad i) (hi : (i : Int) = count ∨ bad = true) : Fin nums 1 r count X bad := fun L hL => by
  obtain ⟨h1, h2, h3⟩ := h L hL
  rcases hi with hi | hi
  · have := hL.len
    exact ⟨by rw [h1, List.take_of_length_le (by omega)], h3⟩
  · rw [hi] at h3; cases h3

/-! Runs. -/
theorem gRuns_at (nums : Bool) {l : List By} (hl : 0 < l.length) : ∃ n a, 0 < n ∧ n ≤ l.length ∧ l.take n = List.replicate n a ∧ a ∈ l ∧ gRuns nums l = numC n ++ (tolT nums a ++ gRuns nums (l.drop n)) := by
  obtain ⟨n, a, h1, h2, h3, h4, h5, h6, _, _⟩ := runsT_step l hl
  have hL : Lead l n := ⟨h1, h2, fun j hj => by rw [h5 j hj, h4], by rw [h4]; exact h6⟩
  obtain ⟨a', e1, e2⟩ := gRuns_lead nums hL
  rw [h4] at e1
  cases e1
  exact ⟨n, a, h1, h2, h3, List.mem_of_getElem? h4, by rw [e2, List.append_assoc]⟩
def C2 (nums : Bool) (r : List Nat) (count : Int) (X : List By) (left : List Nat) (bad : Bool) (q : Nat) : Prop := ∀ L, Told nums 2 r count L → X = L.take q ∧ left = gRuns nums (L.drop q) ∧ bad = false
theorem c2_start (nums : Bool) (r : List Nat) (count : Int) : C2 nums r count [] r false 0 := fun L h => ⟨rfl, by rw [h.eq]; rfl, rfl⟩
theorem c2_step {nums : Bool} {r : List Nat} {count : Int} {X : List By} {left : List Nat} {bad : Bool} {q n : Nat} {left1 left2 : List Nat} {bad1 bad2 : Bool} {x : By} (h : C2 nums r count X left bad q) (hq : (q : Int) < count)
    (hn : numQ left bad = (n, left1, bad1)) (hx : valQ nums left1 bad1 = (x, left2, bad2)) : (n = 0 ∨ count - (q : Int) < (n : Int) → NoTold nums 2 r count) ∧ C2 nums r count (X ++ List.replicate n x) left2 bad2 (q + n) := by
  have key : ∀ L, Told nums 2 r count L → n ≠ 0 ∧ (n : Int) ≤ count - (q : Int) ∧ X ++ List.replicate n x = L.take (q + n) ∧ left2 = gRuns nums (L.drop (q + n)) ∧ bad2 = false := fun L hL => by
    obtain ⟨h1, h2, h3⟩ := h L hL
    have hlen := hL.len
    have hle := hL.le
    obtain ⟨m, a, g1, g2, g3, g4, g5⟩ := gRuns_at nums (l := L.drop q) (by rw [List.length_drop]; omega)
    rw [List.length_drop] at g2
    rw [h2, h3, g5, numQ_num m _ (by omega)] at hn
    simp only [Prod.mk.injEq] at hn
    obtain ⟨rfl, rfl, rfl⟩ := hn
    rw [valQ_tol _ (hL.ok a (List.mem_of_mem_drop g4))] at hx
    simp only [Prod.mk.injEq] at hx
    obtain ⟨rfl, rfl, rfl⟩ := hx
    refine ⟨by omega, by omega, by rw [h1, ← g3, List.take_add], by rw [List.drop_drop], rfl⟩
  exact ⟨fun hc L hL => by have := key L hL; omega, fun L hL => (key L hL).2.2⟩
theorem c2_end {nums : Bool} {r : List Nat} {count : Int} {X : List By} {left : List Nat} {bad : Bool} {q : Nat} (h : C2 nums r count X left bad q) (hi : count ≤ (q : Int) ∨ bad = true) : Fin nums 2 r count X bad := fun L hL => by
  obtain ⟨h1, h2, h3⟩ := h L hL
  rcases hi with hi | hi
  · have := hL.len
    exact ⟨by rw [h1, List.take_of_length_le (by omega)], h3⟩
  · rw [hi] at h3; cases h3

/-! Frames. -/
theorem c3_facts {nums : Bool} {r : List Nat} {count : Int} {L : List By} (h : Told nums 3 r count L) (hc : 0 < count) : ∃ l : List Int, L = TX l ∧ (∀ n ∈ l, I64 n) ∧ (l.length : Int) = count ∧ I64 (loT l) ∧ numQ r false = (zigN (loT l), widT l :: packB (widT l) (diffT l), false) ∧ widT l ≤ 64 ∧ unpackB (packB (widT l) (diffT l)) (widT l : Nat) count = some (diffT l) ∧ ∀ n ∈ l, loT l ≤ n := by
  have hn := h.kk.2.2 rfl
  subst hn
  obtain ⟨l, hl⟩ : ∃ l, l = L.map num64 := ⟨_, rfl⟩
  obtain ⟨hT, hI⟩ := tx_of h.ok
  rw [← hl] at hT hI
  have hll : l.length = L.length := by rw [hl, List.length_map]
  have hlen := h.len
  have hle := h.le
  obtain ⟨g1, g2, g3⟩ := lo_hi (l := l) (by omega)
  have hlo := hI _ g2
  have hhi := hI _ g3
  have hd : ∀ x ∈ diffT l, x ≤ (hiT l - loT l).toNat := fun x hx => by
    obtain ⟨n, hn, rfl⟩ := List.mem_map.1 hx
    have := g1 n hn
    omega
  have hlt : (hiT l - loT l).toNat < 18446744073709551616 := by unfold I64 at hlo hhi; omega
  obtain ⟨hb1, hb2⟩ := bitLen_le _ hlt
  have hdl : (diffT l).length = l.length := by rw [diffT, List.length_map]
  have e3 := unpack_pack (widT l) (diffT l) hb1 (by omega) (fun x hx => Nat.lt_of_le_of_lt (hd x hx) hb2)
  rw [hdl, hll, hlen] at e3
  have er : r = Go.Proofs.Ytjcmekhamohbnaa.putT (loT l) ++ widT l :: packB (widT l) (diffT l) := by
    have e := h.eq
    have e2 : gKind true ((3 : Nat) : Int) L = frameT l := by rw [hl]; rfl
    rw [e2] at e
    unfold frameT at e
    rw [if_neg (by omega)] at e
    rw [e]
    simp
  refine ⟨l, hT.symm, hI, by omega, hlo, ?_, hb1, e3, fun n hn => (g1 n hn).1⟩
  rw [er]
  unfold Go.Proofs.Ytjcmekhamohbnaa.putT
  exact numQ_num _ _ (zigN_lt hlo)
def addW (z : Int) (d : Nat) : Int := IntKind.i64.wrap (IntKind.u64.wrap (IntKind.u64.wrap z + (d : Int)))
theorem addW_i64 (z : Int) (d : Nat) : I64 (addW z d) := by
  unfold addW I64
  rw [IntKind.wrap_i64]
  omega
theorem addW_eq {z : Int} {d : Nat} (h : I64 (z + (d : Int))) : addW z d = z + (d : Int) := by
  unfold I64 at h
  unfold addW
  rw [IntKind.wrap_u64, IntKind.wrap_u64, IntKind.wrap_i64]
  omega
theorem c3_zero {nums : Bool} {r : List Nat} {count : Int} (hc : count ≤ 0) : Fin nums 3 r count [] false := fun L hL => by
  have := hL.len
  have h0 : L = [] := List.length_eq_zero_iff.1 (by omega)
  exact ⟨h0.symm, rfl⟩
theorem c3_not {nums : Bool} {r : List Nat} {count : Int} {U : Nat} {left : List Nat} {bad : Bool} (hc : 0 < count) (hn : numQ r false = (U, left, bad)) (hb : bad = true ∨ left = [] ∨ (∃ w rest, left = w :: rest ∧ (64 < w ∨ unpackB rest (w : Nat) count = none))) : NoTold nums 3 r count := fun L hL => by
  obtain ⟨l, _, _, _, _, h5, h6, h7, _⟩ := c3_facts hL hc
  rw [h5] at hn
  simp only [Prod.mk.injEq] at hn
  obtain ⟨_, rfl, rfl⟩ := hn
  rcases hb with hb | hb | ⟨w, rest, hb, h8⟩
  · cases hb
  · cases hb
  · simp only [List.cons.injEq] at hb
    obtain ⟨rfl, rfl⟩ := hb
    rcases h8 with h8 | h8
    · omega
    · rw [h7] at h8; cases h8
theorem c3_end {nums : Bool} {r : List Nat} {count : Int} {U w : Nat} {rest us : List Nat} {bad : Bool} (hc : 0 < count) (hn : numQ r false = (U, w :: rest, bad)) (hu : unpackB rest (w : Nat) count = some us) : Fin nums 3 r count (us.map fun d => textT (addW (zagN U) d)) bad := fun L hL => by
  obtain ⟨l, h1, h2, h3, h4, h5, h6, h7, h8⟩ := c3_facts hL hc
  rw [h5] at hn
  simp only [Prod.mk.injEq, List.cons.injEq] at hn
  obtain ⟨rfl, ⟨rfl, rfl⟩, rfl⟩ := hn
  rw [h7] at hu
  cases hu
  refine ⟨?_, rfl⟩
  rw [h1, zag_zig]
  unfold diffT TX
  rw [List.map_map]
  refine List.map_congr_left fun n hn => ?_
  show textT (addW (loT l) (n - loT l).toNat) = textT n
  have e : loT l + ((n - loT l).toNat : Int) = n := by have := h8 n hn; omega
  rw [addW_eq (by rw [e]; exact h2 n hn), e]

/-! Dictionaries. -/
def dictP (L : List By) : List Nat := packB (Lib.bitLen ((wordsT L).length - 1)) (L.map (placeT (wordsT L)))
def C4 (nums : Bool) (r : List Nat) (count : Int) (n : Nat) (X : List By) (left : List Nat) (bad : Bool) (i : Nat) : Prop := ∀ L, Told nums 4 r count L → n = (wordsT L).length ∧ X = (wordsT L).take i ∧ left = gPlain nums ((wordsT L).drop i) ++ dictP L ∧ bad = false
theorem c4_start {nums : Bool} {r : List Nat} {count : Int} {n : Nat} {left : List Nat} {bad : Bool} (hn : numQ r false = (n, left, bad)) : C4 nums r count n [] left bad 0 := fun L h => by
  have hw := wordsT_len L
  have hle := h.le
  have e : r = numC (wordsT L).length ++ (gPlain nums (wordsT L) ++ dictP L) := by
    rw [h.eq, ← List.append_assoc]
    rfl
  rw [e, numQ_num _ _ (by omega)] at hn
  simp only [Prod.mk.injEq] at hn
  obtain ⟨rfl, rfl, rfl⟩ := hn
  exact ⟨rfl, rfl, rfl, rfl⟩
theorem c4_step {nums : Bool} {r : List Nat} {count : Int} {n : Nat} {X : List By} {left : List Nat} {bad : Bool} {i : Nat} (h : C4 nums r count n X left bad i) (hi : i < n) : C4 nums r count n (X ++ [(valQ nums left bad).1]) (valQ nums left bad).2.1 (valQ nums left bad).2.2 (i + 1) := fun L hL => by
  obtain ⟨h0, h1, h2, h3⟩ := h L hL
  have hil : i < (wordsT L).length := by omega
  have hd : (wordsT L).drop i = (wordsT L)[i] :: (wordsT L).drop (i + 1) := List.drop_eq_getElem_cons hil
  have e : left = tolT nums (wordsT L)[i] ++ (gPlain nums ((wordsT L).drop (i + 1)) ++ dictP L) := by rw [h2, hd, ← List.append_assoc]; unfold gPlain; rw [List.map_cons, List.flatten_cons]
  have hv := valQ_tol (gPlain nums ((wordsT L).drop (i + 1)) ++ dictP L) (hL.ok _ ((wordsT_mem L _).1 (List.getElem_mem hil)))
  rw [e, h3, hv]
  exact ⟨h0, by rw [h1, List.take_succ_eq_append_getElem hil], rfl, rfl⟩
def D4 (nums : Bool) (r : List Nat) (count : Int) (X : List By) (left : List Nat) (bad : Bool) : Prop := ∀ L, Told nums 4 r count L → X = wordsT L ∧ unpackB left (Lib.bitLen (X.length - 1) : Nat) count = some (L.map (placeT (wordsT L))) ∧ bad = false
theorem c4_end {nums : Bool} {r : List Nat} {count : Int} {n : Nat} {X : List By} {left : List Nat} {bad : Bool} {i : Nat} (h : C4 nums r count n X left bad i) (hin : i ≤ n) (hi : i = n ∨ i = 65535 ∨ bad = true) : D4 nums r count X left bad := fun L hL => by
  obtain ⟨h0, h1, h2, h3⟩ := h L hL
  have hw := wordsT_len L
  have hle := hL.le
  have hlen := hL.len
  have hbad : i = (wordsT L).length := by
    rcases hi with hi | hi | hi
    · omega
    · omega
    · rw [hi] at h3; cases h3
  have hX : X = wordsT L := by rw [h1, List.take_of_length_le (by omega)]
  have hl : left = dictP L := by
    rw [h2, List.drop_eq_nil_of_le (by omega)]
    rfl
  refine ⟨hX, ?_, h3⟩
  rw [hX, hl]
  obtain ⟨hb1, hb2⟩ := bitLen_le ((wordsT L).length - 1) (by omega)
  have e3 := unpack_pack (Lib.bitLen ((wordsT L).length - 1)) (L.map (placeT (wordsT L))) hb1 (by rw [List.length_map]; exact hle) (fun x hx => by
    obtain ⟨n, hn, rfl⟩ := List.mem_map.1 hx
    have := placeT_lt (wordsT_up L) ((wordsT_mem L n).2 hn)
    omega)
  rw [List.length_map, hlen] at e3
  exact e3
theorem d4_none {nums : Bool} {r : List Nat} {count : Int} {X : List By} {left : List Nat} {bad : Bool} (h : D4 nums r count X left bad) (hu : unpackB left (Lib.bitLen (X.length - 1) : Nat) count = none) : NoTold nums 4 r count := fun L hL => by
  have := (h L hL).2.1
  rw [hu] at this
  cases this
theorem d4_far {nums : Bool} {r : List Nat} {count : Int} {X : List By} {left : List Nat} {bad : Bool} {us : List Nat} (h : D4 nums r count X left bad) (hu : unpackB left (Lib.bitLen (X.length - 1) : Nat) count = some us) {i p : Nat} (hp : us[i]? = some p) (hX : X.length ≤ p) : NoTold nums 4 r count := fun L hL => by
  obtain ⟨h1, h2, _⟩ := h L hL
  rw [hu] at h2
  cases h2
  rw [List.getElem?_map] at hp
  cases hq : L[i]? with
  | none => rw [hq] at hp; cases hp
  | some x =>
    rw [hq] at hp
    have hp2 : placeT (wordsT L) x = p := Option.some.inj hp
    have := placeT_lt (wordsT_up L) ((wordsT_mem L x).2 (List.mem_of_getElem? hq))
    rw [h1] at hX
    omega
theorem d4_end {nums : Bool} {r : List Nat} {count : Int} {X : List By} {left : List Nat} {bad : Bool} {us : List Nat} (h : D4 nums r count X left bad) (hu : unpackB left (Lib.bitLen (X.length - 1) : Nat) count = some us) : Fin nums 4 r count (us.map fun p => X.getD p []) bad := fun L hL => by
  obtain ⟨h1, h2, h3⟩ := h L hL
  rw [hu] at h2
  cases h2
  refine ⟨?_, h3⟩
  rw [List.map_map, h1]
  have : ∀ n ∈ L, ((fun p => (wordsT L).getD p []) ∘ placeT (wordsT L)) n = n := fun n hn => by
    show (wordsT L).getD (placeT (wordsT L) n) [] = n
    rw [List.getD_eq_getElem?_getD, placeT_get (wordsT_up L) ((wordsT_mem L n).2 hn)]
    rfl
  rw [List.map_congr_left this, List.map_id']

end Go.Proofs.Ytjcmekhamohbnaa.Bc

namespace Go.Proofs.Ytjcmekhamohbnaa.Bc
set_option linter.unusedVariables false
set_option linter.unusedSimpArgs false
open Go.RowKit

def IsQB (B : Nat) (w : World) (r : Nat) (left : List Nat) (bad : Bool) : Prop :=
  ∃ v, w.heap[r]? = some (.cells #[v, .bool bad] 82 (0, 0)) ∧ Rd w v (left.map u8v) ∧ ∀ b off n c, v = .slice (some ⟨b, off, none⟩) n c → 0 < n → b < B ∧ b ≠ r
theorem isQB_of {w : World} {r : Nat} {left : List Nat} {bad : Bool} (h : IsQ w r left bad) : IsQB w.heap.size w r left bad := by
  obtain ⟨v, h1, h2⟩ := h
  refine ⟨v, h1, h2, fun b off n c hv hp => ?_⟩
  subst hv
  obtain ⟨hn, hc⟩ := rd_cells h2
  obtain ⟨b', off', ha, hcell⟩ := hc hp
  simp only [Option.some.injEq, Addr.mk.injEq] at ha
  obtain ⟨rfl, rfl, _⟩ := ha
  have h0 := hcell 0 hp
  exact ⟨World.block_lt_of_cell? w _ h0, isQ_apart h1 h0⟩
theorem IsQB.own {B : Nat} {w w' : World} {r : Nat} {left : List Nat} {bad : Bool} {row : Option Nat} (h : IsQB B w r left bad) (hg : w.grownBy w' row) (hrow : ∀ k, row = some k → B ≤ k) (hr : r < B) : IsQB B w' r left bad := by
  obtain ⟨v, h1, h2, h3⟩ := h
  refine ⟨v, (hg.block r (Array.getElem?_eq_some_iff.1 h1).1 (fun e => by have := hrow r e.symm; omega)).trans h1, rd_row (B := B) h2 (fun b off n c hv hp e => ?_) hg, h3⟩
  have := (h3 b off n c hv hp).1
  have := hrow b e.symm
  omega
theorem IsQB.mono {B B' : Nat} {w : World} {r : Nat} {left : List Nat} {bad : Bool} (h : IsQB B w r left bad) (hb : B ≤ B') : IsQB B' w r left bad := by
  obtain ⟨v, h1, h2, h3⟩ := h
  exact ⟨v, h1, h2, fun b off n c hv hp => ⟨by have := (h3 b off n c hv hp).1; omega, (h3 b off n c hv hp).2⟩⟩
theorem IsQB.kept {B : Nat} {w w' : World} {r : Nat} {left : List Nat} {bad : Bool} (h : IsQB B w r left bad) (hb : Below w.heap.size w w') (hr : r < B) : IsQB B w' r left bad := h.own (grown_of_below hb none) (fun k e => by cases e) hr
set_option maxRecDepth 100000 in
set_option maxHeartbeats 1000000 in
theorem refRNumB_any (B r : Nat) (left : List Nat) (w : World) (h : IsQB B w r left false) (h256 : ∀ x ∈ left, x < 256) (hbig : left.length ≤ 17592186044416) :
    Calls Try.prog 59 #[.pointer (some ⟨r, 0, none⟩)] w fun e w' =>
      (nextC left = none ∧ e = .returned (.int .u64 0) ∧ IsQB B w' r left true ∧ w.grownBy w' (some r)) ∨
      (∃ u n : Nat, nextC left = some (u, n) ∧ e = .returned (.int .u64 (u : Int)) ∧ IsQB B w' r (left.drop n) false ∧ w.grownBy w' (some r)) := by
  obtain ⟨v, hv, hr, hdb⟩ := h
  have HDB := Lib.hid hdb
  obtain ⟨c0, c1, f0, f1⟩ := isQ_cells hv
  have HV := Lib.hid hv
  have HR := Lib.hid hr
  have hr2 := hr
  obtain ⟨ao, cap, hvs, hrr⟩ := hr2
  clear hrr
  rw [List.length_map] at hvs
  subst hvs
  obtain ⟨len, hlen⟩ : ∃ len, len = left.length := ⟨_, rfl⟩
  rw [← hlen] at c0 hbig HR HV HDB
  have HL := Lib.hid hlen
  have H256 := Lib.hid h256
  have hcap := rd_cap HR.out
  clear hv hr hlen h256 hdb
  go_enter Try.func59, Try.ntmps59
  go_wp2_with fail
  go_loop [3, 4] (fun u i => ∃ k U : Nat, k ≤ len ∧ k ≤ 9 ∧ i = .int .i64 (k : Int) ∧ u = .int .u64 (U : Int) ∧ U < 2 ^ (7 * k) ∧ nextF k U (left.drop k) = nextC left) (fun _ i => len - (intOf i).toNat)
  case atStart => exact ⟨0, 0, Nat.zero_le _, by omega, rfl, rfl, by simp, rfl⟩
  case round =>
    obtain ⟨k, U, hk, hk9, rfl, rfl, hU, hnx⟩ := hrel
    have HU := Lib.hid hU
    have HN := Lib.hid hnx
    clear hU hnx
    by_cases hlt : k < len
    · obtain ⟨b, off, rfl, hcell⟩ := (rd_cells HR.out).2 (by omega)
      have hx := hcell k hlt
      obtain ⟨x, hxe⟩ : ∃ x, x = left.getD k 0 := ⟨_, rfl⟩
      rw [← hxe] at hx
      have hget : left[k]? = some x := by
        rw [hxe, List.getD_eq_getElem?_getD, List.getElem?_eq_getElem (by rw [← HL.out]; exact hlt)]; rfl
      have hx2 : x < 256 := H256.out x (List.mem_of_getElem? hget)
      have hdrop : left.drop k = x :: left.drop (k + 1) := by
        have hkl : k < left.length := by rw [← HL.out]; exact hlt
        rw [List.drop_eq_getElem_cons hkl]
        congr 1
        rw [List.getElem?_eq_getElem hkl] at hget
        simpa using hget
      have hstep : nextF k U (left.drop k) = (if k = 9 ∧ 1 < x then none else if 128 ≤ x then nextF (k + 1) (U + x % 128 * 2 ^ (7 * k)) (left.drop (k + 1))
          else if x = 0 ∧ 0 < k then none else some (U + x % 128 * 2 ^ (7 * k), k + 1)) := by rw [hdrop]; rfl
      have HS := Lib.hid (hstep.symm.trans HN.out)
      have HAP := Lib.hid (isQ_apart HV.out (hcell 0 (by omega)))
      clear hcell hxe hget hdrop hstep
      have HNE := Lib.hid (show ∀ b' off' c' n', (Value.slice (some ⟨b, off, none⟩) len cap) = .slice (some ⟨b', off', none⟩) n' c' → 0 < n' → b' ≠ r by
        intro b' off' c' n' hv' hp
        simp only [Value.slice.injEq, Option.some.injEq, Addr.mk.injEq] at hv'
        have := HAP.out
        omega)
      by_cases hbad : (k = 9 ∧ 1 < x) ∨ (x = 0 ∧ 0 < k)
      · have HQ := Lib.hid (show nextC left = none by
          have := HS.out
          by_cases h9 : k = 9 ∧ 1 < x
          · rw [if_pos h9] at this; exact this.symm
          · rw [if_neg h9, if_neg (by omega), if_pos (by omega)] at this; exact this.symm)
        by_cases h9 : k = 9 ∧ 1 < x
        · obtain ⟨h91, h92⟩ := h9
          subst h91
          have hb1 : decide ((1 : Int) < (x : Int)) = true := by simp; omega
          clear hbad
          go_wp2_with fail
          go_ret
          exact .inl ⟨HQ.out, rfl, ⟨_, heap_setCell_same w r 1 _ _ (.bool true) HV.out, rd_set HR.out HNE.out, HDB.out⟩, grown_setCell _ _ _⟩
        · have hb : decide (0 < k) = true := by simp; omega
          obtain rfl : x = 0 := by omega
          have hz4 : ((k : Int) == 9) = true ∨ ((k : Int) == 9) = false := by cases ((k : Int) == 9) <;> simp
          clear hbad h9
          rcases hz4 with hz4 | hz4
          all_goals
            go_wp2_with fail
            go_ret
            exact .inl ⟨HQ.out, rfl, ⟨_, heap_setCell_same w r 1 _ _ (.bool true) HV.out, rd_set HR.out HNE.out, HDB.out⟩, grown_setCell _ _ _⟩
      · have hs2 := HS.out
        rw [if_neg (by omega)] at hs2
        have HS2 := Lib.hid hs2
        have HOR := Lib.hid (or_group U x k HU.out hk9 hx2 (by omega))
        clear hs2
        by_cases hx128 : 128 ≤ x
        · have hz4 : ((k : Int) == 9) = false := by rw [beq_eq_false_iff_ne]; omega
          have hz6 : ((x : Int) == 0) = false := by rw [beq_eq_false_iff_ne]; omega
          have hb128 : decide ((x : Int) < 128) = false := by simp; omega
          have HK9 := Lib.hid (show ¬ k = 9 by omega)
          have HR3 := Lib.hid (show nextF (k + 1) (U + x % 128 * 2 ^ (7 * k)) (left.drop (k + 1)) = nextC left by have := HS2.out; rwa [if_pos hx128] at this)
          clear hbad
          go_wp2_with fail
          go_round
          case rel =>
            refine ⟨k + 1, U + x % 128 * 2 ^ (7 * k), by omega, by have := HK9.out; omega, by go_num, by rw [HOR.out], ?_, HR3.out⟩
            have h1 := HU.out
            have h3 : x % 128 + 1 ≤ 128 := by omega
            have h5 : (x % 128 + 1) * 2 ^ (7 * k) ≤ 128 * 2 ^ (7 * k) := Nat.mul_le_mul_right _ h3
            have h6 : 128 * 2 ^ (7 * k) = 2 ^ (7 * (k + 1)) := by rw [Nat.mul_add, Nat.pow_add]; omega
            rw [Nat.succ_mul] at h5
            omega
          case measure => simp [intOf]; omega
        · have hb128 : decide ((x : Int) < 128) = true := by simp; omega
          have HQ := Lib.hid (show nextC left = some (U + x % 128 * 2 ^ (7 * k), k + 1) by have := HS2.out; rw [if_neg hx128, if_neg (by omega)] at this; exact this.symm)
          have hcase : (((x : Int) == 0) = true ∧ decide (0 < k) = false ∧ ((k : Int) == 9) = false) ∨ (((x : Int) == 0) = false ∧ ((k : Int) == 9) = true ∧ decide ((1 : Int) < (x : Int)) = false) ∨ (((x : Int) == 0) = false ∧ ((k : Int) == 9) = false ∧ True) := by
            by_cases h : x = 0
            · left; exact ⟨by rw [beq_iff_eq]; omega, by simp; omega, by rw [beq_eq_false_iff_ne]; omega⟩
            · right
              by_cases h9 : k = 9
              · left; exact ⟨by rw [beq_eq_false_iff_ne]; omega, by rw [beq_iff_eq]; omega, by simp; omega⟩
              · right; exact ⟨by rw [beq_eq_false_iff_ne]; omega, by rw [beq_eq_false_iff_ne]; omega, trivial⟩
          have HRD := Lib.hid (rd_drop HR.out (show k + 1 ≤ len by omega))
          clear hbad
          rcases hcase with ⟨hz4, hz5, hz6⟩ | ⟨hz4, hz5, hz6⟩ | ⟨hz4, hz5, hz6⟩
          all_goals
            go_wp2_with fail
            · go_ret
              have hz : len - (k + 1) = 0 := by have := rd_cap HR.out; omega
              refine .inr ⟨_, _, HQ.out, congrArg (fun z => Ending.returned (.int .u64 z)) HOR.out, ⟨_, heap_setCell_same w r 0 _ _ _ HV.out, ?_, fun b' off' n' c' hv' hp => by simp only [Value.slice.injEq] at hv'; omega⟩, grown_setCell _ _ _⟩
              rw [hz, List.drop_of_length_le (by rw [← HL.out]; omega)]
              exact rd_empty _ _ _
            · go_ret
              refine .inr ⟨_, _, HQ.out, congrArg (fun z => Ending.returned (.int .u64 z)) HOR.out, ⟨_, heap_setCell_same w r 0 _ _ _ HV.out, ?_, fun b' off' n' c' hv' hp => by simp only [Value.slice.injEq, Option.some.injEq, Addr.mk.injEq] at hv'; rw [← hv'.1.1]; exact HDB.out b off len cap rfl (by omega)⟩, grown_setCell _ _ _⟩
              have hd := HRD.out
              rw [← List.map_drop] at hd
              refine rd_set hd fun b' off' c' n' hv' hp => ?_
              simp only [Value.slice.injEq, Option.some.injEq, Addr.mk.injEq] at hv'
              rw [← hv'.1.1]
              exact HAP.out
    · have HQ := Lib.hid (show nextC left = none by
        have := HN.out
        rw [List.drop_of_length_le (by rw [← HL.out]; omega)] at this
        exact this.symm)
      have hd : decide ((k : Int) < (len : Int)) = false := by simp; omega
      go_wp2_with fail
      go_ret
      refine .inl ⟨HQ.out, rfl, ⟨_, heap_setCell_same w r 1 _ _ (.bool true) HV.out, rd_set HR.out (fun b' off' c' n' hv' hp => ?_), HDB.out⟩, grown_setCell _ _ _⟩
      simp only [Value.slice.injEq] at hv'
      obtain ⟨rfl, h2, h3⟩ := hv'
      obtain ⟨b, off, h4, hcell⟩ := (rd_cells HR.out).2 (by omega)
      cases h4
      exact isQ_apart HV.out (hcell 0 (by omega))

set_option maxRecDepth 100000 in
set_option maxHeartbeats 8000000 in
theorem refNumBadB_any (B r : Nat) (left : List Nat) (w : World) (h : IsQB B w r left true) (hbig : left.length ≤ 17592186044416) :
    Calls Try.prog 59 #[.pointer (some ⟨r, 0, none⟩)] w fun e w' => e = .returned (.int .u64 0) ∧ IsQB B w' r left true ∧ w.grownBy w' (some r) := by
  obtain ⟨v, hv, hr, hdb⟩ := h
  have HDB := Lib.hid hdb
  obtain ⟨c0, c1, f0, f1⟩ := isQ_cells hv
  have HV := Lib.hid hv
  have HR := Lib.hid hr
  obtain ⟨ao, cap, hvs, hrr⟩ := hr
  rw [List.length_map] at hvs
  subst hvs
  obtain ⟨len, hlen⟩ : ∃ len, len = left.length := ⟨_, rfl⟩
  rw [← hlen] at c0 hbig HR HV HDB
  have HL := Lib.hid hlen
  clear hv hrr hlen hdb
  have HNE := Lib.hid (show ∀ b' off' c' n', (Value.slice ao len cap) = .slice (some ⟨b', off', none⟩) n' c' → 0 < n' → b' ≠ r by
    intro b' off' c' n' hv' hp
    simp only [Value.slice.injEq] at hv'
    obtain ⟨rfl, rfl, _⟩ := hv'
    obtain ⟨b2, off2, he, hcell⟩ := (rd_cells HR.out).2 hp
    simp only [Option.some.injEq, Addr.mk.injEq] at he
    have := isQ_apart HV.out (by have := hcell 0 hp; rw [← he.1, ← he.2.1] at this; exact this)
    exact this)
  go_enter Try.func59, Try.ntmps59
  go_wp2_with fail
  go_loop [3, 4] (fun u i => u = .int .u64 0 ∧ i = .int .i64 0) (fun _ i => 0)
  case atStart => exact ⟨rfl, rfl⟩
  case round =>
    obtain ⟨rfl, rfl⟩ := hrel
    go_wp2_with fail
    go_ret
    exact ⟨rfl, ⟨_, heap_setCell_same w r 1 _ _ (.bool true) HV.out, rd_set HR.out HNE.out, HDB.out⟩, grown_setCell _ _ _⟩

theorem refNumQB_any (B r : Nat) (left : List Nat) (bad : Bool) (w : World) (h : IsQB B w r left bad) (h256 : ∀ x ∈ left, x < 256) (hbig : left.length ≤ 17592186044416) :
    Calls Try.prog 59 #[.pointer (some ⟨r, 0, none⟩)] w fun e w' => e = .returned (.int .u64 ((numQ left bad).1 : Nat)) ∧ IsQB B w' r (numQ left bad).2.1 (numQ left bad).2.2 ∧ w.grownBy w' (some r) := by
  cases bad with
  | true => exact refNumBadB_any B r left w h hbig
  | false =>
    refine (refRNumB_any B r left w h h256 hbig).mono ?_
    rintro e w' (⟨hn, rfl, hq, hg⟩ | ⟨u, n, hn, rfl, hq, hg⟩)
    · have e1 : numQ left false = (0, left, true) := by unfold numQ; rw [if_neg (by simp), hn]
      rw [e1]
      exact ⟨rfl, hq, hg⟩
    · have e1 : numQ left false = (u, left.drop n, false) := by unfold numQ; rw [if_neg (by simp), hn]
      rw [e1]
      exact ⟨rfl, hq, hg⟩



structure FarO (base : Nat) (w : World) (v : Value) (ps : Row) : Prop where
  row : OwnR base w v ps
  els : ∀ p ∈ ps, OwnB base w p.1 p.2
  off : ∀ p ∈ ps, p.1.ownBlock = none ∨ p.1.ownBlock ≠ v.ownBlock
theorem farO_nil (base : Nat) (w : World) : FarO base w (.slice none 0 0) [] := ⟨ownR_nil _ _, fun p hp => by simp at hp, fun p hp => by simp at hp⟩
theorem FarO.kept {base : Nat} {w w' : World} {v : Value} {ps : Row} {row : Option Nat} (h : FarO base w v ps) (hg : w.grownBy w' row) (hr : ∀ g, row = some g → g < base ∨ w.heap.size ≤ g) : FarO base w' v ps := by
  have key : ∀ (T : TypeId) (sz n : Nat) (u : Value) (l : List Value), w.ownsRow base T sz u n l → u.ownBlock = none ∨ u.ownBlock ≠ row := fun T sz n u l hu => by
    cases e : u.ownBlock with
    | none => exact .inl rfl
    | some g =>
      right
      intro e2
      have h1 := own_lt hu e
      have h2 := own_base hu g e
      rcases hr g e2.symm with h3 | h3 <;> omega
  exact ⟨World.ownsRow.kept h.row hg (key _ _ _ _ _ h.row), fun p hp => World.ownsRow.kept (h.els p hp) hg (key _ _ _ _ _ (h.els p hp)), h.off⟩
theorem FarO.keptR {base r : Nat} {w w' : World} {v : Value} {ps : Row} (h : FarO base w v ps) (hg : w.grownBy w' (some r)) (hr : r < base) : FarO base w' v ps := h.kept hg fun g e => by cases e; exact .inl hr
theorem FarO.keptB {base : Nat} {w w' : World} {v : Value} {ps : Row} (h : FarO base w v ps) (hb : Below w.heap.size w w') : FarO base w' v ps := h.kept (grown_of_below hb none) fun g e => by cases e
theorem FarO.snoc {base : Nat} {w w' : World} {v v' u : Value} {ps : Row} {x : By} (h : FarO base w v ps) (hu : OwnB base w u x) (hf : u.ownBlock = none ∨ u.ownBlock ≠ v.ownBlock)
    (h9 : w'.ownsRow base 24 1 v' (ps.length + 1) (vs ps ++ [u])) (hg : w.grownBy w' v.ownBlock) (hn : ∀ g, v'.ownBlock = some g → v.ownBlock = some g ∨ w.heap.size ≤ g) : FarO base w' v' (ps ++ [(u, x)]) := by
  have key : ∀ (a : Value) (y : By), OwnB base w a y → (a.ownBlock = none ∨ a.ownBlock ≠ v.ownBlock) → (a.ownBlock = none ∨ a.ownBlock ≠ v'.ownBlock) := fun a y ha h1 => by
    cases e : a.ownBlock with
    | none => exact .inl rfl
    | some g =>
      right
      intro e2
      rcases hn g e2.symm with h3 | h3
      · rcases h1 with h1 | h1
        · rw [h1] at e; cases e
        · exact h1 (e.trans h3.symm)
      · have := own_lt ha e; omega
  refine ⟨OwnR.of (n := ps.length + 1) (by rw [vs_snoc]; exact h9), fun p hp => ?_, fun p hp => ?_⟩
  · rcases List.mem_append.1 hp with hp | hp
    · exact World.ownsRow.kept (h.els p hp) hg (h.off p hp)
    · obtain rfl := List.mem_singleton.1 hp
      exact World.ownsRow.kept hu hg hf
  · rcases List.mem_append.1 hp with hp | hp
    · exact key _ _ (h.els p hp) (h.off p hp)
    · obtain rfl := List.mem_singleton.1 hp
      exact key _ _ hu hf
theorem FarO.toFar {base : Nat} {w : World} {v : Value} {ps : Row} (h : FarO base w v ps) : Far base w v ps :=
  ⟨h.row, fun w' hg p hp => Rd.of_owns (World.ownsRow.kept (h.els p hp) hg (h.off p hp))⟩
theorem far_mono {base base' : Nat} {w : World} {v : Value} {ps : Row} (h : Far base w v ps) (hb : base' ≤ base) : Far base' w v ps := ⟨own_mono h.row hb, h.far⟩
theorem own_off {base B : Nat} {w w2 : World} {v u : Value} {ps : Row} {x : By} (hrow : OwnR base w v ps) (hu : OwnB w.heap.size w2 u x) : u.ownBlock = none ∨ u.ownBlock ≠ v.ownBlock := by
  cases e : u.ownBlock with
  | none => exact .inl rfl
  | some g =>
    right
    intro e2
    have h1 := own_lt hrow e2.symm
    have h2 := ownB_base hu g e
    omega

end Go.Proofs.Ytjcmekhamohbnaa.Bc

namespace Go.Proofs.Ytjcmekhamohbnaa.Bc
set_option linter.unusedVariables false
set_option linter.unusedSimpArgs false
open Go.RowKit

def RetQ (B r : Nat) (x : By) (left : List Nat) (bad : Bool) (w : World) (e : Ending) (w' : World) : Prop :=
  ∃ u, e = .returned u ∧ OwnB w.heap.size w' u x ∧ IsQB B w' r left bad ∧ w.grownBy w' (some r)

set_option maxRecDepth 100000 in
set_option maxHeartbeats 8000000 in
theorem refrbytes_any (B r : Nat) (left : List Nat) (bad : Bool) (w : World) (h : IsQB B w r left bad) (h256 : ∀ x ∈ left, x < 256) (hbig : left.length ≤ 1000000) :
    Calls Try.prog 78 #[.pointer (some ⟨r, 0, none⟩), .int .i64 64] w (RetQ B r (bytesQ left bad).1 (bytesQ left bad).2.1 (bytesQ left bad).2.2 w) := by
  have HN := Lib.hid (refNumQB_any B r left bad w h h256 (by omega))
  have hlt := numQ_lt left bad
  have hm := numQ_mem (bad := bad) h256
  have hl := numQ_len left bad
  obtain ⟨N, hN⟩ : ∃ N, N = (numQ left bad).1 := ⟨_, rfl⟩
  obtain ⟨L, hL⟩ : ∃ L, L = (numQ left bad).2.1 := ⟨_, rfl⟩
  obtain ⟨b1, hb1⟩ : ∃ b1, b1 = (numQ left bad).2.2 := ⟨_, rfl⟩
  have hq : bytesQ left bad = (if b1 = true ∨ 64 < N ∨ L.length < N then ([], L, true) else (L.take N, L.drop N, false)) := by rw [hN, hL, hb1]; rfl
  rw [← hN, ← hL, ← hb1] at HN
  rw [← hN] at hlt
  rw [← hL] at hm hl
  obtain ⟨Q, hQ⟩ : ∃ Q, Q = bytesQ left bad := ⟨_, rfl⟩
  rw [← hQ] at hq ⊢
  have HQ := Lib.hid hq
  obtain ⟨M, hM⟩ : ∃ M, M = L.length := ⟨_, rfl⟩
  have hMl : M ≤ 1000000 := by omega
  have HM := Lib.hid hM
  clear h h256 hbig hN hL hb1 hq hQ hl hm
  go_enter Try.func78, Try.ntmps78
  go_wp2_with fail
  refine HN.out.mono ?_
  rintro e w2 ⟨rfl, hi, hg⟩
  obtain ⟨v, hv, hr, hd⟩ := hi
  obtain ⟨c0, c1, f0, f1⟩ := isQ_cells hv
  have HG := Lib.hid hg
  have hr2 := hr
  obtain ⟨ao, cap, hvs, hrr⟩ := hr2
  clear hrr
  rw [List.length_map, ← hM] at hvs
  subst hvs
  have HRL := Lib.hid (show r < w2.heap.size from (Array.getElem?_eq_some_iff.1 hv).1)
  have HV := Lib.hid hv
  have HR := Lib.hid hr
  have HDB := Lib.hid hd
  have hcl := rd_cap HR.out
  have hwM : IntKind.u64.wrap (M : Int) = (M : Int) := IntWalk.u64_in _ (by omega)
  clear hv hr hd hg hM HN
  cases b1 with
  | true =>
    have HQ2 := Lib.hid (show Q = ([], L, true) from by rw [HQ.out, if_pos (.inl rfl)])
    go_wp2_with fail
    go_ret
    rw [HQ2.out]
    exact ⟨_, rfl, ownB_nil _ _, ⟨_, heap_setCell_same w2 r 1 _ _ (.bool true) HV.out, rd_set HR.out fun b' off' c' n' hv' hp => (HDB.out b' off' n' c' hv' hp).2, HDB.out⟩, grown_trans HG.out (grown_setCell _ _ _)⟩
  | false =>
    by_cases h64 : 64 < N
    · have h64b : decide ((64 : Int) < (N : Int)) = true := by simp; omega
      have HQ2 := Lib.hid (show Q = ([], L, true) from by rw [HQ.out, if_pos (.inr (.inl h64))])
      go_wp2_with fail
      go_ret
      rw [HQ2.out]
      exact ⟨_, rfl, ownB_nil _ _, ⟨_, heap_setCell_same w2 r 1 _ _ (.bool true) HV.out, rd_set HR.out fun b' off' c' n' hv' hp => (HDB.out b' off' n' c' hv' hp).2, HDB.out⟩, grown_trans HG.out (grown_setCell _ _ _)⟩
    · have h64b : decide ((64 : Int) < (N : Int)) = false := by simp; omega
      by_cases hMN : M < N
      · have hMNb : decide ((M : Int) < (N : Int)) = true := by simp; omega
        have HQ2 := Lib.hid (show Q = ([], L, true) from by rw [HQ.out, if_pos (.inr (.inr (by rw [← HM.out]; exact hMN)))])
        go_wp2_with fail
        go_ret
        rw [HQ2.out]
        exact ⟨_, rfl, ownB_nil _ _, ⟨_, heap_setCell_same w2 r 1 _ _ (.bool true) HV.out, rd_set HR.out fun b' off' c' n' hv' hp => (HDB.out b' off' n' c' hv' hp).2, HDB.out⟩, grown_trans HG.out (grown_setCell _ _ _)⟩
      · have hMNb : decide ((M : Int) < (N : Int)) = false := by simp; omega
        obtain ⟨X, hX⟩ : ∃ X, X = L.take N := ⟨_, rfl⟩
        have HXL := Lib.hid (show X.length = N by rw [hX, List.length_take, ← HM.out]; omega)
        have HQ2 := Lib.hid (show Q = (X, L.drop N, false) from by rw [hX]; rw [HQ.out, if_neg (by rw [← HM.out]; rintro (h | h | h); cases h; exact h64 h; exact hMN h)])
        have HT := Lib.hid (show Rd w2 (.slice ao N cap) (X.map u8v) from by rw [hX]; have h := rd_take HR.out (m := N) (by omega); rw [← List.map_take] at h; exact h)
        clear hX
        have hN0i : (0 : Int) ≤ (N : Int) := by omega
        have hNMi : (N : Int) ≤ (M : Int) := by omega
        have hNci : (N : Int) ≤ (cap : Int) := by omega
        by_cases hM0 : M = 0
        · have hN0 : N = 0 := by omega
          subst hM0
          subst hN0
          have hL0 : L = [] := List.length_eq_zero_iff.1 HM.out.symm
          subst hL0
          obtain rfl : X = [] := List.length_eq_zero_iff.1 HXL.out
          cases ao with
          | none =>
            have hcap0 : cap = 0 := by
              obtain ⟨ao', cap', hv', hn', _⟩ := HR.out
              simp only [List.map_nil, List.length_nil, Value.slice.injEq] at hv'
              obtain ⟨rfl, _, rfl⟩ := hv'
              exact hn'.1 rfl
            subst hcap0
            have HOE := Lib.hid (show (w2.alloc (.cells #[] 5)).ownsRow w2.heap.size 5 1 (.slice (some ⟨w2.heap.size, 0, none⟩) 0 0) 0 [] from World.ownsRow_lit w2 #[] 0 (Nat.le_refl _) (by unfold maxLen; omega) rfl)
            have HBA := Lib.hid (below_alloc w2 (.cells #[] 5))
            have HRY := Lib.hid (rdS_flat (HT.out.kept HBA.out))
            have HON := Lib.hid (ones_flat (ones_u8 []))
            have hszB := HBA.out.size
            have c0a := (HBA.out.cell (World.block_lt_of_cell? _ _ c0)).trans c0
            go_wp2_with (at_builtin; go_must (refine wpList_append_k elmU8 rfl _ _ rfl w2.heap.size _ _ _ rfl HOE.out _ ((([] : List Nat).map u8v).map fun u => [u]) rfl HRY.out HON.out (by first | (simp; done) | (simp; have := HXL.out; omega)) hszB 0 (by first | (simp; done) | (have := HXL.out; simp; omega)) ?_); intro ao4 cap4 w4 hown4 hgrow4 hnew4; have HO4 := Lib.hid hown4; have HB4 := Lib.hid (below_ownB HBA.out hszB hgrow4 (own_base HOE.out)); have HV4 := Lib.hid ((HB4.out.block r HRL.out).trans HV.out); have HC4 := isQ_cells HV4.out; have c40 := HC4.1; have f40 := HC4.2.2.1; clear HC4 hown4 hgrow4 hnew4)
            go_ret
            rw [HQ2.out]
            refine ⟨_, rfl, ?_, ⟨_, heap_setCell_same w4 r 0 _ _ _ HV4.out, ?_, ?_⟩, grown_trans HG.out (grown_trans (grown_of_below HB4.out _) (grown_setCell _ _ _))⟩
            · have h := HO4.out
              rw [flat_ones, List.nil_append] at h
              have h2 : OwnB w2.heap.size w4 (.slice ao4 0 cap4) [] := OwnB.of (n := 0) h
              have hne : (Value.slice ao4 0 cap4).ownBlock = none ∨ (Value.slice ao4 0 cap4).ownBlock ≠ some r := by
                cases e : (Value.slice ao4 0 cap4).ownBlock with
                | none => exact .inl rfl
                | some g =>
                  right
                  intro e2
                  have h3 := ownB_base h2 g e
                  have h4 := HRL.out
                  cases e2
                  omega
              exact World.ownsRow.kept (own_mono h2 HG.out.size) (grown_setCell w4 ⟨r, 0, none⟩ _) hne
            · first | exact Rd.nil _ | exact rd_empty _ _ _
            · intro b' off' n' c' hv' hp
              simp only [Value.slice.injEq] at hv'
              omega
          | some a =>
            obtain ⟨ab, aoff, ap⟩ := a
            by_cases hcn : cap = 0
            · subst hcn
              have HOE := Lib.hid (show (w2.alloc (.cells #[] 5)).ownsRow w2.heap.size 5 1 (.slice (some ⟨w2.heap.size, 0, none⟩) 0 0) 0 [] from World.ownsRow_lit w2 #[] 0 (Nat.le_refl _) (by unfold maxLen; omega) rfl)
              have HBA := Lib.hid (below_alloc w2 (.cells #[] 5))
              have HRY := Lib.hid (rdS_flat (HT.out.kept HBA.out))
              have HON := Lib.hid (ones_flat (ones_u8 []))
              have hszB := HBA.out.size
              have c0a := (HBA.out.cell (World.block_lt_of_cell? _ _ c0)).trans c0
              go_wp2_with (at_builtin; go_must (refine wpList_append_k elmU8 rfl _ _ rfl w2.heap.size _ _ _ rfl HOE.out _ ((([] : List Nat).map u8v).map fun u => [u]) rfl HRY.out HON.out (by first | (simp; done) | (simp; have := HXL.out; omega)) hszB 0 (by first | (simp; done) | (have := HXL.out; simp; omega)) ?_); intro ao4 cap4 w4 hown4 hgrow4 hnew4; have HO4 := Lib.hid hown4; have HB4 := Lib.hid (below_ownB HBA.out hszB hgrow4 (own_base HOE.out)); have HV4 := Lib.hid ((HB4.out.block r HRL.out).trans HV.out); have HC4 := isQ_cells HV4.out; have c40 := HC4.1; have f40 := HC4.2.2.1; clear HC4 hown4 hgrow4 hnew4)
              go_ret
              rw [HQ2.out]
              refine ⟨_, rfl, ?_, ⟨_, heap_setCell_same w4 r 0 _ _ _ HV4.out, ?_, ?_⟩, grown_trans HG.out (grown_trans (grown_of_below HB4.out _) (grown_setCell _ _ _))⟩
              · have h := HO4.out
                rw [flat_ones, List.nil_append] at h
                have h2 : OwnB w2.heap.size w4 (.slice ao4 0 cap4) [] := OwnB.of (n := 0) h
                have hne : (Value.slice ao4 0 cap4).ownBlock = none ∨ (Value.slice ao4 0 cap4).ownBlock ≠ some r := by
                  cases e : (Value.slice ao4 0 cap4).ownBlock with
                  | none => exact .inl rfl
                  | some g =>
                    right
                    intro e2
                    have h3 := ownB_base h2 g e
                    have h4 := HRL.out
                    cases e2
                    omega
                exact World.ownsRow.kept (own_mono h2 HG.out.size) (grown_setCell w4 ⟨r, 0, none⟩ _) hne
              · first | exact Rd.nil _ | exact rd_empty _ _ _
              · intro b' off' n' c' hv' hp
                simp only [Value.slice.injEq] at hv'
                omega
            · have hcn2 : ¬ 0 = cap := fun h => hcn h.symm
              have HOE := Lib.hid (show (w2.alloc (.cells #[] 5)).ownsRow w2.heap.size 5 1 (.slice (some ⟨w2.heap.size, 0, none⟩) 0 0) 0 [] from World.ownsRow_lit w2 #[] 0 (Nat.le_refl _) (by unfold maxLen; omega) rfl)
              have HBA := Lib.hid (below_alloc w2 (.cells #[] 5))
              have HRY := Lib.hid (rdS_flat (HT.out.kept HBA.out))
              have HON := Lib.hid (ones_flat (ones_u8 []))
              have hszB := HBA.out.size
              have c0a := (HBA.out.cell (World.block_lt_of_cell? _ _ c0)).trans c0
              go_wp2_with (at_builtin; go_must (refine wpList_append_k elmU8 rfl _ _ rfl w2.heap.size _ _ _ rfl HOE.out _ ((([] : List Nat).map u8v).map fun u => [u]) rfl HRY.out HON.out (by first | (simp; done) | (simp; have := HXL.out; omega)) hszB 0 (by first | (simp; done) | (have := HXL.out; simp; omega)) ?_); intro ao4 cap4 w4 hown4 hgrow4 hnew4; have HO4 := Lib.hid hown4; have HB4 := Lib.hid (below_ownB HBA.out hszB hgrow4 (own_base HOE.out)); have HV4 := Lib.hid ((HB4.out.block r HRL.out).trans HV.out); have HC4 := isQ_cells HV4.out; have c40 := HC4.1; have f40 := HC4.2.2.1; clear HC4 hown4 hgrow4 hnew4)
              go_ret
              rw [HQ2.out]
              refine ⟨_, rfl, ?_, ⟨_, heap_setCell_same w4 r 0 _ _ _ HV4.out, ?_, ?_⟩, grown_trans HG.out (grown_trans (grown_of_below HB4.out _) (grown_setCell _ _ _))⟩
              · have h := HO4.out
                rw [flat_ones, List.nil_append] at h
                have h2 : OwnB w2.heap.size w4 (.slice ao4 0 cap4) [] := OwnB.of (n := 0) h
                have hne : (Value.slice ao4 0 cap4).ownBlock = none ∨ (Value.slice ao4 0 cap4).ownBlock ≠ some r := by
                  cases e : (Value.slice ao4 0 cap4).ownBlock with
                  | none => exact .inl rfl
                  | some g =>
                    right
                    intro e2
                    have h3 := ownB_base h2 g e
                    have h4 := HRL.out
                    cases e2
                    omega
                exact World.ownsRow.kept (own_mono h2 HG.out.size) (grown_setCell w4 ⟨r, 0, none⟩ _) hne
              · first | exact Rd.nil _ | exact rd_empty _ _ _
              · intro b' off' n' c' hv' hp
                simp only [Value.slice.injEq] at hv'
                omega
        · obtain ⟨b, off, rfl, _⟩ := (rd_cells HR.out).2 (by omega)
          by_cases hcn : cap = N
          · have hMN2 : M = N := by omega
            subst hcn
            subst hMN2
            have HOE := Lib.hid (show (w2.alloc (.cells #[] 5)).ownsRow w2.heap.size 5 1 (.slice (some ⟨w2.heap.size, 0, none⟩) 0 0) 0 [] from World.ownsRow_lit w2 #[] 0 (Nat.le_refl _) (by unfold maxLen; omega) rfl)
            have HBA := Lib.hid (below_alloc w2 (.cells #[] 5))
            have HRY := Lib.hid (rdS_flat (HT.out.kept HBA.out))
            have HON := Lib.hid (ones_flat (ones_u8 X))
            have hszB := HBA.out.size
            have c0a := (HBA.out.cell (World.block_lt_of_cell? _ _ c0)).trans c0
            go_wp2_with (at_builtin; go_must (refine wpList_append_k elmU8 rfl _ _ rfl w2.heap.size _ _ _ rfl HOE.out _ ((X.map u8v).map fun u => [u]) rfl HRY.out HON.out (by first | (simp; done) | (simp; have := HXL.out; omega)) hszB M (by first | (simp; done) | (have := HXL.out; simp; omega)) ?_); intro ao4 cap4 w4 hown4 hgrow4 hnew4; have HO4 := Lib.hid hown4; have HB4 := Lib.hid (below_ownB HBA.out hszB hgrow4 (own_base HOE.out)); have HV4 := Lib.hid ((HB4.out.block r HRL.out).trans HV.out); have HC4 := isQ_cells HV4.out; have c40 := HC4.1; have f40 := HC4.2.2.1; clear HC4 hown4 hgrow4 hnew4)
            go_ret
            rw [HQ2.out]
            refine ⟨_, rfl, ?_, ⟨_, heap_setCell_same w4 r 0 _ _ _ HV4.out, ?_, ?_⟩, grown_trans HG.out (grown_trans (grown_of_below HB4.out _) (grown_setCell _ _ _))⟩
            · have h := HO4.out
              rw [flat_ones, List.nil_append] at h
              have h2 : OwnB w2.heap.size w4 (.slice ao4 M cap4) X := OwnB.of (n := M) h
              have hne : (Value.slice ao4 M cap4).ownBlock = none ∨ (Value.slice ao4 M cap4).ownBlock ≠ some r := by
                cases e : (Value.slice ao4 M cap4).ownBlock with
                | none => exact .inl rfl
                | some g =>
                  right
                  intro e2
                  have h3 := ownB_base h2 g e
                  have h4 := HRL.out
                  cases e2
                  omega
              exact World.ownsRow.kept (own_mono h2 HG.out.size) (grown_setCell w4 ⟨r, 0, none⟩ _) hne
            · have h := rd_empty w4 ⟨b, off, none⟩ 0
              rw [List.drop_of_length_le (by rw [← HM.out]; exact Nat.le_refl _)]
              exact rd_empty _ _ _
            · intro b' off' n' c' hv' hp
              simp only [Value.slice.injEq] at hv'
              omega
          · have hcn2 : ¬ N = cap := fun h => hcn h.symm
            have HRD := Lib.hid (rd_drop HR.out (n := N) (by omega))
            have HOE := Lib.hid (show (w2.alloc (.cells #[] 5)).ownsRow w2.heap.size 5 1 (.slice (some ⟨w2.heap.size, 0, none⟩) 0 0) 0 [] from World.ownsRow_lit w2 #[] 0 (Nat.le_refl _) (by unfold maxLen; omega) rfl)
            have HBA := Lib.hid (below_alloc w2 (.cells #[] 5))
            have HRY := Lib.hid (rdS_flat (HT.out.kept HBA.out))
            have HON := Lib.hid (ones_flat (ones_u8 X))
            have hszB := HBA.out.size
            have c0a := (HBA.out.cell (World.block_lt_of_cell? _ _ c0)).trans c0
            go_wp2_with (at_builtin; go_must (refine wpList_append_k elmU8 rfl _ _ rfl w2.heap.size _ _ _ rfl HOE.out _ ((X.map u8v).map fun u => [u]) rfl HRY.out HON.out (by first | (simp; done) | (simp; have := HXL.out; omega)) hszB N (by first | (simp; done) | (have := HXL.out; simp; omega)) ?_); intro ao4 cap4 w4 hown4 hgrow4 hnew4; have HO4 := Lib.hid hown4; have HB4 := Lib.hid (below_ownB HBA.out hszB hgrow4 (own_base HOE.out)); have HV4 := Lib.hid ((HB4.out.block r HRL.out).trans HV.out); have HC4 := isQ_cells HV4.out; have c40 := HC4.1; have f40 := HC4.2.2.1; clear HC4 hown4 hgrow4 hnew4)
            go_ret
            rw [HQ2.out]
            refine ⟨_, rfl, ?_, ⟨_, heap_setCell_same w4 r 0 _ _ _ HV4.out, ?_, ?_⟩, grown_trans HG.out (grown_trans (grown_of_below HB4.out _) (grown_setCell _ _ _))⟩
            · have h := HO4.out
              rw [flat_ones, List.nil_append] at h
              have h2 : OwnB w2.heap.size w4 (.slice ao4 N cap4) X := OwnB.of (n := N) h
              have hne : (Value.slice ao4 N cap4).ownBlock = none ∨ (Value.slice ao4 N cap4).ownBlock ≠ some r := by
                cases e : (Value.slice ao4 N cap4).ownBlock with
                | none => exact .inl rfl
                | some g =>
                  right
                  intro e2
                  have h3 := ownB_base h2 g e
                  have h4 := HRL.out
                  cases e2
                  omega
              exact World.ownsRow.kept (own_mono h2 HG.out.size) (grown_setCell w4 ⟨r, 0, none⟩ _) hne
            · have h := HRD.out.kept HB4.out
              rw [← List.map_drop] at h
              refine rd_set h fun b' off' c' n' hv' hp => ?_
              simp only [Value.slice.injEq, Option.some.injEq, Addr.mk.injEq] at hv'
              rw [← hv'.1.1]
              exact (HDB.out b off M cap rfl (by omega)).2
            · intro b' off' n' c' hv' hp
              simp only [Value.slice.injEq, Option.some.injEq, Addr.mk.injEq] at hv'
              rw [← hv'.1.1]
              exact HDB.out b off M cap rfl (by omega)


set_option maxRecDepth 100000 in
set_option maxHeartbeats 8000000 in
theorem refvalueB_num (B r : Nat) (left : List Nat) (bad : Bool) (w : World) (h : IsQB B w r left bad) (hrB : r < B) (h256 : ∀ x ∈ left, x < 256) (hbig : left.length ≤ 1000000) :
    Calls Try.prog 58 #[.pointer (some ⟨r, 0, none⟩), .bool true] w (RetQ B r (textT (zagN (numQ left bad).1)) (numQ left bad).2.1 (numQ left bad).2.2 w) := by
  have HN := Lib.hid (refNumQB_any B r left bad w h h256 (by omega))
  have hlt := numQ_lt left bad
  obtain ⟨U, hU⟩ : ∃ U, U = (numQ left bad).1 := ⟨_, rfl⟩
  obtain ⟨L, hL⟩ : ∃ L, L = (numQ left bad).2.1 := ⟨_, rfl⟩
  obtain ⟨B, hB⟩ : ∃ B, B = (numQ left bad).2.2 := ⟨_, rfl⟩
  rw [← hU] at HN hlt ⊢
  rw [← hL, ← hB] at HN ⊢
  have hz := zag_i64 hlt
  have HZ := Lib.hid fun w' => refzag_any U w' hlt
  obtain ⟨z, hze⟩ : ∃ z, z = zagN U := ⟨_, rfl⟩
  rw [← hze] at hz HZ ⊢
  have HI := Lib.hid hz
  clear h h256 hU hL hB hlt hze hz
  go_enter Try.func58, Try.ntmps58
  go_wp2_with fail
  refine HN.out.mono ?_
  rintro e w2 ⟨rfl, hq, hg⟩
  have HQ := Lib.hid hq
  have HG := Lib.hid hg
  clear hq hg
  go_wp2_with fail
  refine (HZ.out _).mono ?_
  rintro e w9 ⟨rfl, rfl⟩
  obtain ⟨W3, hW3⟩ : ∃ W3 : World, W3 = w2.alloc (.cells #[.int .i64 z] 2) := ⟨_, rfl⟩
  have HB3 := Lib.hid (show Below w2.heap.size w2 W3 from by rw [hW3]; exact below_alloc w2 _)
  have HX := Lib.hid (textsE_any [z] (.slice (some ⟨w2.heap.size, 0, none⟩) 1 1) W3 (fun n hn => by rw [List.mem_singleton.1 hn]; exact HI.out) (show (1 : Nat) ≤ 100000 by decide) (by rw [hW3]; exact rd_lit w2 #[.int .i64 z] 2 1 _ rfl rfl (by decide)))
  have HW3 := Lib.hid hW3
  clear hW3
  go_wp2_with fail
  rw [← HW3.out]
  refine HX.out.mono ?_
  rintro e w4 ⟨v4, rfl, ps, hown, hxs, hb4⟩
  have hpl : ps.length = 1 := by rw [← len_xs, hxs]; rfl
  obtain ⟨u, x, rfl⟩ : ∃ u x, ps = [(u, x)] := by
    match ps, hpl with
    | [(u, x)], _ => exact ⟨u, x, rfl⟩
  have hx : x = textT z := by simpa [xs, TX] using hxs
  subst hx
  obtain ⟨a4, c4, rfl⟩ := hown.row.shape
  have hl1 : List.length [(u, textT z)] = 1 := rfl
  have HU := Lib.hid (hown.els (u, textT z) List.mem_cons_self)
  obtain ⟨b, off, rfl, hcell⟩ := (rdv_cells (show Rd w4 (.slice a4 1 c4) (vs [(u, textT z)]) from hown.row.rd)).2 (by decide)
  have hc : w4.cell? ⟨b, off, none⟩ = some u := by have h := hcell 0 (u, textT z) rfl; rw [Nat.add_zero] at h; exact h
  have HB4 := Lib.hid (show Below w2.heap.size w2 w4 from HB3.out.trans (hb4.mono HB3.out.size))
  rw [hl1]
  have hsz3 := HB3.out.size
  have hszg := HG.out.size
  clear hown hxs hb4 hpl hcell hl1
  go_wp2_with fail
  go_ret
  exact ⟨u, rfl, own_mono HU.out (Nat.le_trans hszg hsz3), HQ.out.kept HB4.out hrB, grown_trans HG.out (grown_of_below HB4.out _)⟩

set_option maxRecDepth 100000 in
set_option maxHeartbeats 8000000 in
theorem refvalueB_by (B r : Nat) (left : List Nat) (bad : Bool) (w : World) (h : IsQB B w r left bad) (h256 : ∀ x ∈ left, x < 256) (hbig : left.length ≤ 1000000) :
    Calls Try.prog 58 #[.pointer (some ⟨r, 0, none⟩), .bool false] w (RetQ B r (bytesQ left bad).1 (bytesQ left bad).2.1 (bytesQ left bad).2.2 w) := by
  have HN := Lib.hid (refrbytes_any B r left bad w h h256 hbig)
  obtain ⟨Q, hQ⟩ : ∃ Q, Q = bytesQ left bad := ⟨_, rfl⟩
  rw [← hQ] at HN ⊢
  clear h h256 hQ
  go_enter Try.func58, Try.ntmps58
  go_wp2_with fail
  refine HN.out.mono ?_
  rintro e w2 ⟨u, rfl, h1, h2, h3⟩
  have H1 := Lib.hid h1
  have H2 := Lib.hid h2
  have H3 := Lib.hid h3
  clear h1 h2 h3
  go_wp2_with fail
  go_ret
  exact ⟨_, rfl, H1.out, H2.out, H3.out⟩

theorem refvalue_any (nums : Bool) (B r : Nat) (left : List Nat) (bad : Bool) (w : World) (h : IsQB B w r left bad) (hrB : r < B) (h256 : ∀ x ∈ left, x < 256) (hbig : left.length ≤ 1000000) :
    Calls Try.prog 58 #[.pointer (some ⟨r, 0, none⟩), .bool nums] w (RetQ B r (valQ nums left bad).1 (valQ nums left bad).2.1 (valQ nums left bad).2.2 w) := by
  cases nums
  · exact refvalueB_by B r left bad w h h256 hbig
  · exact refvalueB_num B r left bad w h hrB h256 hbig

set_option maxRecDepth 100000 in
set_option maxHeartbeats 8000000 in
theorem refshort_any (ps : Row) (lv : Value) (w : World) (hl : ps.length ≤ 1000000) (hr : Rd w lv (vs ps)) (he : Els w ps) :
    Calls Try.prog 16 #[lv] w fun e w' => e = .returned (.bool ((xs ps).all fun x => decide (x.length ≤ 64))) ∧ w = w' := by
  obtain ⟨ao, cap, rfl⟩ := rd_shape1 hr
  obtain ⟨n, hn⟩ : ∃ n, n = ps.length := ⟨_, rfl⟩
  rw [len_vs, ← hn] at hr ⊢
  rw [← hn] at hl
  have HR := Lib.hid hr
  have HE := Lib.hid he
  have HN := Lib.hid hn
  clear hr he hn
  go_enter Try.func16, Try.ntmps16
  go_wp2_with fail
  go_loopw [3] (fun i wr => ∃ q : Nat, q ≤ n ∧ i = .int .i64 (q : Int) ∧ (∀ x ∈ (xs ps).take q, x.length ≤ 64) ∧ wr = w) (fun i _ => n - (intOf i).toNat)
  case atStart => exact ⟨0, Nat.zero_le _, rfl, (fun x hx => by simp at hx), rfl⟩
  case round =>
    obtain ⟨q, hq, rfl, hall, hwr⟩ := hrel
    subst hwr
    have HALL := Lib.hid hall
    clear hall
    by_cases hlt : q < n
    · have hlti : (q : Int) < (n : Int) := by omega
      have hq0 : (0 : Int) ≤ (q : Int) := by omega
      obtain ⟨b1, o1, rfl, hc1⟩ := (rdv_cells HR.out).2 (by omega)
      obtain ⟨ya, yc, y, hy, hye⟩ := row_at HE.out (q := q) (by rw [← HN.out]; exact hlt)
      have hx1 : wr.cell? ⟨b1, o1 + q, none⟩ = some (.slice ya (List.length y) yc) := hc1 q _ hy
      have HTY := Lib.hid (take_xs hy)
      have HYM := Lib.hid (List.mem_of_getElem? (xs_at hy))
      obtain ⟨k, hk⟩ : ∃ k, k = List.length y := ⟨_, rfl⟩
      rw [← hk] at hx1
      have HK := Lib.hid hk
      clear hc1 hy hye hk
      by_cases hk64 : k ≤ 64
      · have hki : ¬ (64 : Int) < (k : Int) := by omega
        have hkd : decide ((64 : Int) < (k : Int)) = false := decide_eq_false hki
        go_wp2_with fail
        go_roundw
        case rel =>
          refine ⟨q + 1, by omega, by go_num, fun x hx => ?_, by first | rfl | trivial⟩
          rw [HTY.out] at hx
          rcases List.mem_append.1 hx with hx | hx
          · exact HALL.out x hx
          · rw [List.mem_singleton.1 hx, ← HK.out]; exact hk64
        case measure => simp [intOf]; omega
      · have hki : (64 : Int) < (k : Int) := by omega
        have hkd : decide ((64 : Int) < (k : Int)) = true := decide_eq_true hki
        have HNO := Lib.hid (show ((xs ps).all fun x => decide (x.length ≤ 64)) = false from by
          rw [Bool.eq_false_iff]
          intro h
          rw [List.all_eq_true] at h
          have h2 := h y HYM.out
          rw [decide_eq_true_iff, ← HK.out] at h2
          exact hk64 h2)
        go_wp2_with fail
        go_ret
        exact ⟨by rw [HNO.out]; rfl, rfl⟩
    · have hqn : q = n := by omega
      subst hqn
      have hlti : ¬ (q : Int) < (q : Int) := by omega
      have HYES := Lib.hid (show ((xs ps).all fun x => decide (x.length ≤ 64)) = true from by
        rw [List.all_eq_true]
        intro x hx
        rw [decide_eq_true_iff]
        exact HALL.out x (by rw [List.take_of_length_le (by rw [len_xs, ← HN.out]; exact Nat.le_refl _)]; exact hx))
      go_wp2_with fail
      go_ret
      exact ⟨by rw [HYES.out]; rfl, rfl⟩


end Go.Proofs.Ytjcmekhamohbnaa.Bc

namespace Go.Proofs.Ytjcmekhamohbnaa.Bc
set_option linter.unusedVariables false
set_option linter.unusedSimpArgs false
open Go.RowKit

def RetGet (base : Nat) (nums : Bool) (k : Nat) (r : List Nat) (count : Int) (e : Ending) (w' : World) : Prop :=
  (∃ L, Told nums k r count L ∧ ∃ v ps, e = .returned (.tuple #[v, .bool true]) ∧ Far base w' v ps ∧ xs ps = L) ∨ (NoTold nums k r count ∧ e = .returned (.tuple #[.slice none 0 0, .bool false]))
theorem newQ {w : World} {v : Value} {left : List Nat} (hr : Rd w v (left.map u8v)) : IsQB (w.alloc (.cells #[v, .bool false] 82)).heap.size (w.alloc (.cells #[v, .bool false] 82)) w.heap.size left false :=
  isQB_of ⟨_, heap_alloc_new w _, hr.kept (below_alloc w _)⟩

end Go.Proofs.Ytjcmekhamohbnaa.Bc
