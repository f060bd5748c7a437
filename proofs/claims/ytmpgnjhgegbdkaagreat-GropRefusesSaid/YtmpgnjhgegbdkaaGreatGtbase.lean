import Derived.Test.YtmpgnjhgegbdkaaGreatPlmath
import Derived.Test.YtmpgnjhgegbdkaaGreatNullg
import Derived.Test.YtmpgnjhgegbdkaaGreatAt
import Derived.Deep.DeepCutAuto
import Derived.Deep.RegionHeld3
import Derived.Deep.RegionLaw
import Derived.Test.YtmpgnjhgegbdkaaGreatBcolp
import Derived.BigRegion
import Derived.Test.YtmpgnjhgegbdkaaGreatIcola
set_option linter.unusedVariables false
set_option linter.unusedSimpArgs false
set_option maxRecDepth 100000
set_option maxHeartbeats 8000000
namespace Go.Proofs.YtmpgnjhgegbdkaaGreat
open Go.RowKit
open _root_.Nat renaming mul_comm -> Qa
def numsB (bs : List Nat) (N C : Nat) : List Nat := (List.range C).map fun i => numB bs (i * N) N
theorem zEe (bs : List Nat) (N C : Nat) : (numsB bs N C).length = C := by simp [numsB]
theorem zS3 (bs : List Nat) (N C i : Nat) (h : i < C) : (numsB bs N C).getD i 0 = numB bs (i * N) N := by
 unfold numsB; rw [List.getD_eq_getElem?_getD, List.getElem?_map, List.getElem?_range h]; rfl
theorem zS4 {bs : List Nat} {N C : Nat} (h256 : ∀ i, bs.getD i 0 < 256) (hl : bs.length = (N * C + 7) / 8) : (packB N (numsB bs N C) == bs) = spareB bs (N * C) := by
 rw [Bool.eq_iff_iff, beq_iff_eq]
 constructor
 ·intro h
  have := zKo N (numsB bs N C)
  rwa [h, zEe] at this
 ·intro h
  unfold spareB at h
  rw [beq_iff_eq] at h
  refine zL5 (by rw [zAx, zEe, hl]) (zJy _ _) h256 fun q hq => ?_
  rw [zAx, zEe] at hq
  unfold packB
  rw [zEe, zEu _ _ q hq]
  by_cases hqc : q < N * C
  ·have hN : 0 < N := by
    rcases Nat.eq_zero_or_pos N with h0 | h0
    ·subst h0; omega
    ·exact h0
   have hd : q / N < C := by rw [Nat.div_lt_iff_lt_mul hN, Qa]; exact hqc
   rw [zS3 _ _ _ _ hd, zL4]
   have hm := Nat.mod_lt q hN
   have e1 : N - 1 - (N - 1 - q % N) = q % N := by omega
   have e2 : q / N * N + q % N = q := by rw [Qa]; exact Nat.div_add_mod q N
   have e3 : N - 1 - q % N < N := by omega
   rw [e1, e2]
   simp [hqc, e3]
  ·have hlast : q / 8 = bs.length - 1 := by omega
   simp only [hqc, decide_false, Bool.false_and]
   unfold bitB
   rw [hlast]
   have h7 : 7 - q % 8 < 8 * bs.length - N * C := by omega
   have := congrArg (fun z => z.testBit (7 - q % 8)) h
   simp only [Nat.testBit_mod_two_pow, Nat.zero_testBit] at this
   simpa [h7] using this.symm
def BytesAt (w : World) (v : Value) : Prop := ∃ bs : List Nat, Rd w v (bs.map u8v) ∧ (∀ x ∈ bs, x < 256) ∧ bs.length <= 17592186044416
theorem BytesAt.kept {w w' : World} {v : Value} (h : BytesAt w v) (hb : Below w.heap.size w w') : BytesAt w' v := by
 obtain ⟨bs, h1, h2⟩ := h
 exact ⟨bs, h1.kept hb, h2⟩
def RowsAt (w : World) (g n : Nat) : Prop := ∀ j, j < n -> ∃ v, w.cell? ⟨g, j, none⟩ = some v ∧ BytesAt w v
theorem RowsAt.kept {w w' : World} {g n : Nat} (h : RowsAt w g n) (hb : Below w.heap.size w w') : RowsAt w' g n := by
 intro j hj
 obtain ⟨v, hc, hv⟩ := h j hj
 exact ⟨v, (hb.cell (p := ⟨g, j, none⟩) (World.block_lt_of_cell? _ _ hc)).trans hc, hv.kept hb⟩
theorem zPd : ∀ (l : List Nat) (i U u m : Nat), (∀ x ∈ l, x < 256) -> i <= 9 -> nextF i U l = some (u, m) -> ∃ t, u = U + t * 2 ^ (7 * i) ∧ i < m ∧ l.take (m - i) = numF (9 - i) t ∧ (0 < i -> 0 < t) := by
 intro l
 induction l with
 | nil => intro i U u m _ _ h; cases h
 | cons x r ih =>
  intro i U u m h256 hi h
  have hx := h256 x (by simp)
  unfold nextF at h
  by_cases h9 : i = 9 ∧ 1 < x
  ·rw [if_pos h9] at h; cases h
  ·rw [if_neg h9] at h
   by_cases hx128 : 128 <= x
   ·rw [if_pos hx128] at h
    have hi8 : i <= 8 := by omega
    obtain ⟨t, h1, h2, h3, h4⟩ := ih (i + 1) _ u m (fun y hy => h256 y (by simp [hy])) (by omega) h
    refine ⟨x % 128 + 128 * t, ?_, by omega, ?_, fun _ => by have := h4 (by omega); omega⟩
    ·rw [h1, Nat.add_mul, Nat.add_assoc, show 7 * (i + 1) = 7 * i + 7 by omega, Nat.pow_add]
     congr 2
     rw [show (2 : Nat) ^ 7 = 128 by decide, Qa 128 t, Nat.mul_assoc, Qa 128]
    ·have h5 := h4 (by omega)
     rw [show m - i = (m - (i + 1)) + 1 by omega, List.take_succ_cons, h3, show 9 - i = (9 - (i + 1)) + 1 by omega, zJz _ _ (by omega)]
     rw [show (x % 128 + 128 * t) % 128 + 128 = x by omega, show (x % 128 + 128 * t) / 128 = t by omega]
   ·rw [if_neg hx128] at h
    by_cases hz : x = 0 ∧ 0 < i
    ·rw [if_pos hz] at h; cases h
    ·rw [if_neg hz] at h
     simp only [Option.some.injEq, Prod.mk.injEq] at h
     obtain ⟨h1, h2⟩ := h
     refine ⟨x, by rw [<- h1, Nat.mod_eq_of_lt (by omega)], by omega, ?_, fun _ => by omega⟩
     rw [<- h2, show i + 1 - i = 1 by omega, zHg _ _ (by omega)]
     rfl
theorem zJv (b : List Nat) (n k : Nat) (h256 : ∀ x ∈ b, x < 256) (h : nextC b = some (n, k)) : b.take k = numC n := by
 obtain ⟨t, h1, h2, h3, _⟩ := zPd b 0 0 n k h256 (by omega) h
 simp at h1
 subst h1
 exact h3
end Go.Proofs.YtmpgnjhgegbdkaaGreat
namespace Go.Proofs.YtmpgnjhgegbdkaaGreat.Bc
def dig : Nat -> Nat -> By
 | 0, _ => []
 | k + 1, U => U / 256 ^ k % 256 :: dig k U
def offN (n : Int) : Nat := (n + 9223372036854775808).toNat
def textT (n : Int) : By := dig 8 (offN n)
def num64 (x : By) : Int := ((x.foldl (fun u b => u * 256 + b) 0 : Nat) : Int) - 9223372036854775808
def tolT (nums : Bool) (x : By) : List Nat := if nums = true then Go.Proofs.YtmpgnjhgegbdkaaGreat.putT (num64 x) else putT x
def gPlain (nums : Bool) (l : List By) : List Nat := (l.map (tolT nums)).flatten
def gRuns (nums : Bool) (l : List By) : List Nat := ((grp l).map fun p => numC p.1 ++ tolT nums p.2).flatten
def gDict (nums : Bool) (l : List By) : List Nat := numC (wordsT l).length ++ gPlain nums (wordsT l) ++ packB (Lib.bitLen ((wordsT l).length - 1)) (l.map (placeT (wordsT l)))
def gKind (nums : Bool) (k : Int) (l : List By) : List Nat := if k = 1 then gPlain nums l else if k = 2 then gRuns nums l else if k = 3 then frameT (l.map num64) else gDict nums l
def gTell (nums : Bool) (k : Int) (l : List By) : Option (List Nat) := if 65535 < l.length ∨ k < 1 ∨ 4 < k ∨ (k = 3 ∧ nums = false) then none else some (k.toNat :: gKind nums k l)
end Go.Proofs.YtmpgnjhgegbdkaaGreat.Bc
namespace Go.Proofs.YtmpgnjhgegbdkaaGreat
open Go.RowKit
open _root_.List renaming replicate -> Qa, append_assoc -> Qb, foldl_cons -> Qc, map_cons -> Qd, mem_append_right -> Qe, length_map -> Qf
theorem zV5 (u : Nat) : zigN (zagN u) = u := by
 unfold zigN zagN
 split <;> split <;> omega
theorem zEf {left rest : List Nat} {u : Nat} {bad : Bool} (h256 : ∀ x ∈ left, x < 256) (h : numR left bad = (u, rest, false)) : left = numC u ++ rest ∧ bad = false := by
 unfold numR at h
 cases hn : nextC left with
 | none => rw [hn] at h; simp at h
 | some p =>
  obtain ⟨v, n⟩ := p
  rw [hn] at h
  simp only [Prod.mk.injEq] at h
  obtain ⟨rfl, rfl, rfl⟩ := h
  have := zJv left v n h256 hn
  refine ⟨?_, rfl⟩
  rw [<- this, List.take_append_drop]
theorem zBw {left rest : List Nat} {z : Int} {bad : Bool} (h256 : ∀ x ∈ left, x < 256) (h : takeR left bad = (z, rest, false)) : left = putT z ++ rest ∧ bad = false := by
 unfold takeR at h
 simp only [Prod.mk.injEq] at h
 obtain ⟨rfl, h2⟩ := h
 have h3 : numR left bad = ((numR left bad).1, rest, false) := by rw [<- h2]
 obtain ⟨h4, h5⟩ := zEf h256 h3
 refine ⟨?_, h5⟩
 unfold putT
 rw [zV5]
 exact h4
theorem zBn {a b : List Nat} (h : ∀ x ∈ a ++ b, x < 256) : ∀ x ∈ b, x < 256 := fun x hx => h x (Qe _ hx)
theorem zCw {left : List Nat} (h256 : ∀ x ∈ left, x < 256) : ∀ (k : Nat) (l : List Int) (rest : List Nat), rdPlain k left false = (l, rest, false) -> left = plainT l ++ rest
 | 0, l, rest, h => by
  rw [rdPlain] at h
  simp only [Prod.mk.injEq] at h
  obtain ⟨rfl, rfl, _⟩ := h
  rfl
 | k + 1, l, rest, h => by
  rw [rdPlain] at h
  obtain ⟨l1, r1, b1, hk⟩ : ∃ l1 r1 b1, rdPlain k left false = (l1, r1, b1) := ⟨_, _, _, rfl⟩
  rw [hk] at h
  simp only [Prod.mk.injEq] at h
  obtain ⟨rfl, h2⟩ := h
  have hb : b1 = false := by
   cases b1 with
   | false => rfl
   | true =>
    have h3 : (takeR r1 true).2.2 = true := by unfold takeR numR; split <;> rfl
    rw [h2] at h3
    simp at h3
  subst hb
  have ih := zCw h256 k l1 r1 hk
  have h256r : ∀ x ∈ r1, x < 256 := by rw [ih] at h256; exact zBn h256
  obtain ⟨z, hz⟩ : ∃ z, z = (takeR r1 false).1 := ⟨_, rfl⟩
  have h4 : takeR r1 false = (z, rest, false) := by rw [hz, <- h2]
  obtain ⟨h5, _⟩ := zBw h256r h4
  rw [<- hz, ih, h5]
  unfold plainT
  rw [List.map_append, List.flatten_append, List.map_singleton, List.flatten_singleton, Qb]
theorem zI3 {r : List Nat} {c : Nat} {l : List Int} (h256 : ∀ x ∈ r, x < 256) (h : wholeT (rdPlain c r false).1 (rdPlain c r false).2.1 (rdPlain c r false).2.2 = some l) : r = plainT l := by
 unfold wholeT at h
 split at h
 ·next hc =>
  cases h
  have := zCw h256 c (rdPlain c r false).1 [] (Prod.ext rfl (Prod.ext hc.2 hc.1))
  simpa using this
 ·cases h
theorem zHd {z : Int} {m : List Int} (hm : m[0]? ≠ some z) : ∀ n, grp (Qa (n + 1) z ++ m) = (n + 1, z) :: grp m
 | 0 => by
  show grp (z :: m) = _
  rw [grp]
  cases m with
  | nil => rfl
  | cons b r =>
   obtain ⟨k, _, _, h3, _, _⟩ := zFx b r
   rw [h3]
   have hne : ¬ z = b := fun e => hm (by rw [e]; rfl)
   show (if z = b then _ else _) = _
   rw [if_neg hne]
 | n + 1 => by
  have ih := zHd hm n
  have e : Qa (n + 1 + 1) z ++ m = z :: (Qa (n + 1) z ++ m) := by rw [List.replicate_succ]; rfl
  rw [e, grp, ih]
  show (if z = z then _ else _) = _
  rw [if_pos rfl]
theorem zKh {z : Int} {m : List Int} {n : Nat} (hn : n ≠ 0) (hm : m[0]? ≠ some z) : runsT (Qa n z ++ m) = numC n ++ putT z ++ runsT m := by
 cases n with
 | zero => exact absurd rfl hn
 | succ n =>
  unfold runsT
  rw [zHd hm n, Qd, List.flatten_cons]
theorem zD2 {left : List Nat} : (takeR left true).2.2 = true := by unfold takeR numR; split <;> rfl
theorem zF7 (count : Nat) (all : List Int) : ∀ (f : Nat) (l : List Int) (left : List Nat) (bad : Bool), (∀ x ∈ left, x < 256) -> rdRuns f count l left bad = some all -> ∃ m, all = l ++ m ∧ left = runsT m ∧ bad = false ∧ ∀ z, l.getLast? = some z -> m[0]? ≠ some z := by
 have base : ∀ (l : List Int) (left : List Nat) (bad : Bool), wholeT l left bad = some all -> ∃ m, all = l ++ m ∧ left = runsT m ∧ bad = false ∧ ∀ z, l.getLast? = some z -> m[0]? ≠ some z := by
  intro l left bad h
  unfold wholeT at h
  split at h
  ·next hc =>
   cases h
   exact ⟨[], by simp, by rw [hc.2]; rfl, hc.1, fun z _ => by simp⟩
  ·cases h
 intro f
 induction f with
 | zero => intro l left bad _ h; exact base l left bad h
 | succ f ih =>
  intro l left bad h256 h
  by_cases hc : count <= l.length
  ·rw [zBa _ _ _ _ _ hc] at h
   exact base l left bad h
  ·rw [rdRuns, if_neg hc] at h
   obtain ⟨n, r1, b1, hn⟩ : ∃ n r1 b1, numR left bad = (n, r1, b1) := ⟨_, _, _, rfl⟩
   rw [hn] at h
   simp only at h
   obtain ⟨z, r2, b2, hz⟩ : ∃ z r2 b2, takeR r1 b1 = (z, r2, b2) := ⟨_, _, _, rfl⟩
   rw [hz] at h
   simp only at h
   split at h
   ·cases h
   ·next hno =>
    simp only [not_or] at hno
    obtain ⟨h1, h2, h3, h4⟩ := hno
    have hb2 : b2 = false := by simpa using h1
    subst hb2
    have hb1 : b1 = false := by
     cases b1 with
     | false => rfl
     | true => have := zD2 (left := r1); rw [hz] at this; simp at this
    subst hb1
    obtain ⟨e1, e2⟩ := zEf h256 hn
    have h256r : ∀ x ∈ r1, x < 256 := by rw [e1] at h256; exact zBn h256
    obtain ⟨e3, _⟩ := zBw h256r hz
    have h256s : ∀ x ∈ r2, x < 256 := by rw [e3] at h256r; exact zBn h256r
    obtain ⟨m, g1, g2, g3, g4⟩ := ih _ _ _ h256s h
    have hlast : (l ++ Qa n z).getLast? = some z := by
     cases n with
     | zero => exact absurd rfl h2
     | succ n => rw [List.replicate_succ', <- Qb, List.getLast?_append]; simp
    have hm := g4 z hlast
    refine ⟨Qa n z ++ m, by rw [g1, Qb], by rw [zKh h2 hm, e1, e3, g2, Qb], e2, fun y hy e => ?_⟩
    have hz0 : (Qa n z ++ m)[0]? = some z := by
     cases n with
     | zero => exact absurd rfl h2
     | succ n => rfl
    rw [hz0] at e
    have e5 : z = y := Option.some.inj e
    apply h4
    unfold lastIs
    rw [hy, e5]
    simp
theorem zKi {r : List Nat} {c : Nat} {l : List Int} (h256 : ∀ x ∈ r, x < 256) (h : rdRuns c c [] r false = some l) : r = runsT l := by
 obtain ⟨m, h1, h2, _, _⟩ := zF7 c l c [] r false h256 h
 rw [h1, h2]
 rfl
theorem zF8 {bs us : List Nat} {n count : Int} (h256 : ∀ x ∈ bs, x < 256) (h : unpackB bs n count = some us) : bs = packB (heldN n) us ∧ us.length = count.toNat := by
 refine ⟨?_, (zC0 h).1⟩
 unfold unpackB at h
 split at h
 ·next hc =>
  obtain ⟨_, _, h3, h4⟩ := hc
  have hp := zS4 (N := heldN n) (C := count.toNat) (bs := bs) (fun i => by
   rw [List.getD_eq_getElem?_getD]
   cases hq : bs[i]? with
   | none => decide
   | some x => exact h256 x (List.mem_of_getElem? hq)) h3
  rw [h4] at hp
  have e := eq_of_beq hp
  simp only [Option.some.injEq] at h
  rw [<- h]
  exact e.symm
 ·cases h
theorem zH9 (lo : Int) : ∀ (us : List Nat) (a : Nat), (us.map fun u : Nat => lo + (u : Int)).foldl min (lo + (a : Int)) = lo + ((us.foldl min a : Nat) : Int)
 | [], a => rfl
 | b :: r, a => by
  rw [Qd, Qc, Qc, show min (lo + (a : Int)) (lo + (b : Int)) = lo + ((min a b : Nat) : Int) by omega]
  exact zH9 lo r (min a b)
theorem zIa (lo : Int) : ∀ (us : List Nat) (a : Nat), (us.map fun u : Nat => lo + (u : Int)).foldl max (lo + (a : Int)) = lo + ((us.foldl max a : Nat) : Int)
 | [], a => rfl
 | b :: r, a => by
  rw [Qd, Qc, Qc, show max (lo + (a : Int)) (lo + (b : Int)) = lo + ((max a b : Nat) : Int) by omega]
  exact zIa lo r (max a b)
theorem zWn (lo : Int) (us : List Nat) (h : 0 < us.length) : loT (us.map fun u : Nat => lo + (u : Int)) = lo + ((loN us : Nat) : Int) ∧ hiT (us.map fun u : Nat => lo + (u : Int)) = lo + ((hiN us : Nat) : Int) := by
 cases us with
 | nil => simp at h
 | cons a r => exact ⟨zH9 lo r a, zIa lo r a⟩
theorem zS5 {r : List Nat} {c : Nat} {l : List Int} (h256 : ∀ x ∈ r, x < 256) (h : rdFrame c r false = some l) : r = frameT l ∧ l.length = c := by
 unfold rdFrame at h
 by_cases h0 : c = 0
 ·rw [if_pos h0] at h
  unfold wholeT at h
  split at h
  ·next hc =>
   cases h
   rw [hc.2, h0]
   exact ⟨rfl, rfl⟩
  ·cases h
 ·rw [if_neg h0] at h
  obtain ⟨lo, r1, b1, ht⟩ : ∃ lo r1 b1, takeR r false = (lo, r1, b1) := ⟨_, _, _, rfl⟩
  rw [ht] at h
  simp only at h
  cases r1 with
  | nil => cases h
  | cons wd rest =>
   simp only at h
   have hb1 : b1 = false := by
    unfold takeR numR at ht
    split at ht
    ·simp only [Prod.mk.injEq] at ht; exact ht.2.2.symm
    ·simp only [Prod.mk.injEq] at ht; exact absurd ht.2.1 (by simp)
   subst hb1
   obtain ⟨e1, _⟩ := zBw h256 ht
   have h256r : ∀ x ∈ rest, x < 256 := by rw [e1] at h256; exact fun x hx => h256 x (Qe _ (List.mem_cons_of_mem _ hx))
   cases hu : unpackB rest (wd : Nat) (c : Int) with
   | none => rw [hu] at h; cases h
   | some us =>
    rw [hu] at h
    simp only at h
    split at h
    ·cases h
    ·next hno =>
     simp only [not_or, Decidable.not_not] at hno
     obtain ⟨g1, g2, g3⟩ := hno
     cases h
     obtain ⟨e2, e3⟩ := zF8 h256r hu
     have hul : us.length = c := by rw [e3]; rfl
     have h64 := (zC0 hu).2
     obtain ⟨m1, m2⟩ := zWn lo us (by omega)
     obtain ⟨k1, k2, k3⟩ := zKs (l := us) (by omega)
     have hb := (bitLen_le (hiN us) (h64 _ k3)).1
     have hlo : loT (us.map fun u : Nat => lo + (u : Int)) = lo := by rw [m1, g1]; omega
     have hwd : widT (us.map fun u : Nat => lo + (u : Int)) = wd := by
      unfold widT
      rw [hlo, m2, show (lo + ((hiN us : Nat) : Int) - lo).toNat = hiN us by omega, g2]
     have hdf : diffT (us.map fun u : Nat => lo + (u : Int)) = us := by
      unfold diffT
      rw [hlo, List.map_map]
      have : ∀ n ∈ us, ((fun n => (n - lo).toNat) ∘ fun u : Nat => lo + (u : Int)) n = n := fun n _ => by
       show (lo + (n : Int) - lo).toNat = n
       omega
      rw [List.map_congr_left this, List.map_id']
     refine ⟨?_, by rw [Qf]; exact hul⟩
     unfold frameT
     rw [if_neg (by rw [Qf]; omega), hlo, hwd, hdf, e1]
     rw [zDr wd (by omega)] at e2
     rw [<- e2]
     simp
end Go.Proofs.YtmpgnjhgegbdkaaGreat
open Go.Lib (hid)
namespace Go.Proofs.YtmpgnjhgegbdkaaGreat.Bc
open Go.RowKit
open _root_.List renaming length -> Qa, mem_append -> Qb, mem_singleton -> Qc
theorem zNv (l : List By) (bs : List Nat) (bv : Value) (i : Nat) (x : By) (w : World) (hd : decT bs (l.length : Int) = some l) (hx : l[i]? = some x) (hr : Rd w bv (bs.map u8v)) (h256 : ∀ x ∈ bs, x < 256) (hbig : bs.length <= 1000000) :
  Calls Tryz.prog 83 #[bv, .int .i64 (l.length : Int), .int .i64 (i : Int)] w fun e w' => ∃ v, e = .returned (.tuple #[v, .bool true]) ∧ OwnB w.heap.size w' v x ∧ Below w.heap.size w w' := by
 obtain ⟨ao, cap, rfl⟩ := zAi hr
 rw [List.length_map] at hr ⊢
 have hD := zN0 bs (.slice ao bs.length cap) (l.length : Int) w hr h256 hbig
 rw [hd] at hD
 have hil := (List.getElem?_eq_some_iff.1 hx).1
 obtain ⟨n, hn⟩ : ∃ n, n = l.length := ⟨_, rfl⟩
 rw [<- hn] at hD hil ⊢
 obtain ⟨m, hm⟩ : ∃ m, m = bs.length := ⟨_, rfl⟩
 rw [<- hm] at hD ⊢
 have HD := hid hD
 have HN := hid hn
 have HX := hid hx
 have hi0 : (0 : Int) <= (i : Int) := by omega
 have hin : (i : Int) < (n : Int) := by omega
 have hi1 : ¬ (i : Int) < 0 := by omega
 have hi2 : ¬ (n : Int) <= (i : Int) := by omega
 clear hd hr h256 hbig hD hx hm hn
 go_enter Tryz.func83, Tryz.ntmps83
 go_wp2_with fail
 refine HD.out.mono ?_
 rintro e w2 ⟨⟨v, ps, rfl, hown, hxs⟩, hb⟩
 have HB := hid hb
 have hpl : ps.length = n := by rw [<- zAv, hxs, HN.out]
 obtain ⟨ao2, k2, rfl⟩ := hown.row.shape
 rw [hpl] at hown ⊢
 obtain ⟨b4, o4, rfl, hc4⟩ := (zBv hown.row.rd).2 (by omega)
 obtain ⟨p, hp⟩ : ∃ p, ps[i]? = some p := ⟨_, List.getElem?_eq_getElem (by rw [hpl]; exact hil)⟩
 have hpx := zBg hp
 rw [hxs, HX.out] at hpx
 obtain ⟨v, y⟩ := p
 obtain rfl : x = y := Option.some.inj hpx
 have hO := hown.els _ (List.mem_of_getElem? hp)
 obtain ⟨va, vc, hv⟩ := OwnB.shape hO
 have hv2 : v = .slice va (Qa x) vc := hv
 clear hv
 subst hv2
 have hy : w2.cell? ⟨b4, o4 + i, none⟩ = some (.slice va (Qa x) vc) := hc4 i _ hp
 have HO := hid hO
 clear hb hown hc4 HD hp hpx hO hxs hpl
 go_wp2_with fail
 go_ret2
 exact ⟨_, rfl, HO.out, HB.out⟩
theorem OwnE.at {base : Nat} {w : World} {v u : Value} {ps : Row} {x : By} {i : Nat} (h : OwnE base w v ps) (hi : ps[i]? = some (u, x)) : (v :: vs ps)[i + 1]? = some u := by
 rw [List.getElem?_cons_succ]
 unfold vs
 rw [List.getElem?_map, hi]
 rfl
theorem OwnE.other {base : Nat} {w : World} {v u a : Value} {ps : Row} {x y : By} {i j : Nat} (h : OwnE base w v ps) (hi : ps[i]? = some (u, x)) (hj : ps[j]? = some (a, y)) (hij : i ≠ j) : a.ownBlock = none ∨ a.ownBlock ≠ u.ownBlock := by
 cases e : a.ownBlock with
 | none => exact .inl rfl
 | some g =>
  right
  intro e2
  have := h.apart (j + 1) (i + 1) a u g (h.at hj) (h.at hi) e e2.symm
  omega
def OkT (nums : Bool) (x : By) : Prop := (∀ a ∈ x, a < 256) ∧ x.length <= 64 ∧ (nums = true -> ∃ z, I64 z ∧ x = textT z)
structure Told (nums : Bool) (k : Nat) (r : List Nat) (count : Int) (L : List By) : Prop where
 kk : 1 <= k ∧ k <= 4 ∧ (k = 3 -> nums = true)
 len : (L.length : Int) = count
 le : L.length <= 65535
 ok : ∀ x ∈ L, OkT nums x
 eq : r = gKind nums (k : Int) L
theorem Told.tell {nums : Bool} {k : Nat} {r : List Nat} {count : Int} {L : List By} (h : Told nums k r count L) : gTell nums (k : Int) L = some (k :: r) := by
 obtain ⟨h1, h2, h3⟩ := h.kk
 unfold gTell
 rw [if_neg, Int.toNat_natCast, <- h.eq]
 rintro (h4 | h4 | h4 | ⟨h4, h5⟩)
 ·have := h.le; omega
 ·omega
 ·omega
 ·rw [h3 (by omega)] at h5; cases h5
structure FarO (base : Nat) (w : World) (v : Value) (ps : Row) : Prop where
 row : OwnR base w v ps
 els : ∀ p ∈ ps, OwnB base w p.1 p.2
 off : ∀ p ∈ ps, p.1.ownBlock = none ∨ p.1.ownBlock ≠ v.ownBlock
theorem FarO.kept {base : Nat} {w w' : World} {v : Value} {ps : Row} {row : Option Nat} (h : FarO base w v ps) (hg : w.grownBy w' row) (hr : ∀ g, row = some g -> g < base ∨ w.heap.size <= g) : FarO base w' v ps := by
 have key : ∀ (T : TypeId) (sz n : Nat) (u : Value) (l : List Value), w.ownsRow base T sz u n l -> u.ownBlock = none ∨ u.ownBlock ≠ row := fun T sz n u l hu => by
  cases e : u.ownBlock with
  | none => exact .inl rfl
  | some g =>
   right
   intro e2
   have h1 := zD7 hu e
   have h2 := zAh hu g e
   rcases hr g e2.symm with h3 | h3 <;> omega
 exact ⟨World.ownsRow.kept h.row hg (key _ _ _ _ _ h.row), fun p hp => World.ownsRow.kept (h.els p hp) hg (key _ _ _ _ _ (h.els p hp)), h.off⟩
theorem FarO.keptR {base r : Nat} {w w' : World} {v : Value} {ps : Row} (h : FarO base w v ps) (hg : w.grownBy w' (some r)) (hr : r < base) : FarO base w' v ps := h.kept hg fun g e => by cases e; exact .inl hr
theorem FarO.keptB {base : Nat} {w w' : World} {v : Value} {ps : Row} (h : FarO base w v ps) (hb : Below w.heap.size w w') : FarO base w' v ps := h.kept (zAc hb none) fun g e => by cases e
theorem FarO.snoc {base : Nat} {w w' : World} {v v' u : Value} {ps : Row} {x : By} (h : FarO base w v ps) (hu : OwnB base w u x) (hf : u.ownBlock = none ∨ u.ownBlock ≠ v.ownBlock)
  (h9 : w'.ownsRow base 29 1 v' (ps.length + 1) (vs ps ++ [u])) (hg : w.grownBy w' v.ownBlock) (hn : ∀ g, v'.ownBlock = some g -> v.ownBlock = some g ∨ w.heap.size <= g) : FarO base w' v' (ps ++ [(u, x)]) := by
 have key : ∀ (a : Value) (y : By), OwnB base w a y -> (a.ownBlock = none ∨ a.ownBlock ≠ v.ownBlock) -> (a.ownBlock = none ∨ a.ownBlock ≠ v'.ownBlock) := fun a y ha h1 => by
  cases e : a.ownBlock with
  | none => exact .inl rfl
  | some g =>
   right
   intro e2
   rcases hn g e2.symm with h3 | h3
   ·rcases h1 with h1 | h1
    ·rw [h1] at e; cases e
    ·exact h1 (e.trans h3.symm)
   ·have := zD7 ha e; omega
 refine ⟨OwnR.of (n := ps.length + 1) (by rw [zFs]; exact h9), fun p hp => ?_, fun p hp => ?_⟩
 ·rcases Qb.1 hp with hp | hp
  ·exact World.ownsRow.kept (h.els p hp) hg (h.off p hp)
  ·obtain rfl := Qc.1 hp
   exact World.ownsRow.kept hu hg hf
 ·rcases Qb.1 hp with hp | hp
  ·exact key _ _ (h.els p hp) (h.off p hp)
  ·obtain rfl := Qc.1 hp
   exact key _ _ hu hf
end Go.Proofs.YtmpgnjhgegbdkaaGreat.Bc
