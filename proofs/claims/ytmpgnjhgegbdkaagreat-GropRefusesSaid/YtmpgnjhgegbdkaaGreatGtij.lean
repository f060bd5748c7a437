import Derived.Test.YtmpgnjhgegbdkaaGreatIcole
import Derived.Test.YtmpgnjhgegbdkaaGreatIcola
import Derived.Test.YtmpgnjhgegbdkaaGreatGtbase
import Derived.Test.YtmpgnjhgegbdkaaGreatBcole
set_option linter.unusedVariables false
set_option linter.unusedSimpArgs false
namespace Go.Proofs.YtmpgnjhgegbdkaaGreat
open Go.RowKit
open _root_.List renaming mem_singleton -> Qa, mem_append -> Qb, mem_map -> Qc, append_assoc -> Qd, pairwise_append -> Qe, all_eq_true -> Qf, mem_of_getElem? -> Qg, length_append -> Qh, length_replicate -> Qi
theorem zB8 {left : List Nat} {bad : Bool} (h : ∀ x ∈ left, x < 256) : I64 (takeR left bad).1 := zPo (zCi left bad)
theorem zEg {left : List Nat} {bad : Bool} (h : ∀ x ∈ left, x < 256) : ∀ x ∈ (takeR left bad).2.1, x < 256 := zBz (bad := bad) h
theorem zCx {left : List Nat} {bad : Bool} (h256 : ∀ x ∈ left, x < 256) : ∀ (k : Nat) (ws : List Int) (rest : List Nat), rdWords k left bad = some (ws, rest, false) -> left = plainT ws ++ rest ∧ bad = false ∧ ws.Pairwise (· < ·) ∧ ∀ x ∈ ws, I64 x
 | 0, ws, rest, h => by
  rw [rdWords] at h
  simp only [Option.some.injEq, Prod.mk.injEq] at h
  obtain ⟨rfl, rfl, rfl⟩ := h
  exact ⟨rfl, rfl, List.Pairwise.nil, fun x hx => by simp at hx⟩
 | k + 1, ws, rest, h => by
  rw [rdWords] at h
  cases hk : rdWords k left bad with
  | none => rw [hk] at h; cases h
  | some p =>
   obtain ⟨w1, l1, b1⟩ := p
   rw [hk] at h
   simp only at h
   obtain ⟨z, r2, b2, hz⟩ : ∃ z r2 b2, takeR l1 b1 = (z, r2, b2) := ⟨_, _, _, rfl⟩
   rw [hz] at h
   simp only at h
   split at h
   ·cases h
   ·next hno =>
    simp only [not_or] at hno
    simp only [Option.some.injEq, Prod.mk.injEq] at h
    obtain ⟨rfl, rfl, rfl⟩ := h
    have hb1 : b1 = false := by
     cases b1 with
     | false => rfl
     | true => have := zD2 (left := l1); rw [hz] at this; simp at this
    subst hb1
    obtain ⟨e1, e2, e3, e5⟩ := zCx h256 k w1 l1 hk
    have h256r : ∀ x ∈ l1, x < 256 := by rw [e1] at h256; exact zBn h256
    obtain ⟨e4, _⟩ := zBw h256r hz
    have hgz : I64 z := by have := zB8 (bad := false) h256r; rw [hz] at this; exact this
    refine ⟨by rw [e1, e4]; unfold plainT; rw [List.map_append, List.flatten_append, List.map_singleton, List.flatten_singleton, Qd], e2, ?_, fun x hx => ?_⟩
    ·rw [Qe]
     refine ⟨e3, List.pairwise_singleton _ _, fun a ha b hb => ?_⟩
     obtain rfl := Qa.1 hb
     cases hl : w1.getLast? with
     | none => rw [List.getLast?_eq_none_iff] at hl; subst hl; simp at ha
     | some y =>
      obtain ⟨ys, rfl⟩ := List.getLast?_eq_some_iff.1 hl
      have hyz : y < b := Int.not_le.1 fun h => hno.2 ⟨y, hl, h⟩
      rcases Qb.1 ha with ha | ha
      ·exact Int.lt_trans ((Qe.1 e3).2.2 a ha y List.mem_cons_self) hyz
      ·obtain rfl := Qa.1 ha
       exact hyz
    ·rcases Qb.1 hx with hx | hx
     ·exact e5 x hx
     ·obtain rfl := Qa.1 hx
      exact hgz
theorem zKj {r : List Nat} {c : Nat} {l : List Int} (h256 : ∀ x ∈ r, x < 256) (h : rdDict c r false = some l) : r = dictT l ∧ l.length = c ∧ ∀ x ∈ l, I64 x := by
 unfold rdDict at h
 have hl1 := zBz (bad := false) h256
 have hnlt := zCi r false
 obtain ⟨n, l1, b1, hn⟩ : ∃ n l1 b1, numR r false = (n, l1, b1) := ⟨_, _, _, rfl⟩
 rw [hn] at h hl1 hnlt
 simp only at h hl1 hnlt
 split at h
 ·cases h
 ·next hc =>
  cases hw : rdWords n l1 b1 with
  | none => rw [hw] at h; cases h
  | some p =>
   obtain ⟨ws, l2, b2⟩ := p
   rw [hw] at h
   simp only at h
   split at h
   ·cases h
   ·next hb =>
    have hb2 : b2 = false := by simpa using hb
    subst hb2
    cases hu : unpackB l2 (Lib.bitLen (ws.length - 1) : Nat) (c : Int) with
    | none => rw [hu] at h; cases h
    | some us =>
     rw [hu] at h
     simp only at h
     split at h
     ·next hall =>
      cases h
      obtain ⟨e1, rfl, e3, e5⟩ := zCx hl1 n ws l2 hw
      have hwl := zCf n ws l2 false hw
      obtain ⟨e4, _⟩ := zEf h256 hn
      have hl2 : ∀ x ∈ l2, x < 256 := by rw [e1] at hl1; exact zBn hl1
      obtain ⟨e6, e7⟩ := zF8 hl2 hu
      rw [zDr _ (bitLen_le (ws.length - 1) (by omega)).1] at e6
      unfold allUsedT at hall
      rw [Bool.and_eq_true, Qf, Qf] at hall
      obtain ⟨ha1, ha2⟩ := hall
      have hlt : ∀ p ∈ us, p < ws.length := fun p hp => by have := ha1 p hp; rwa [decide_eq_true_iff] at this
      have hget : ∀ p ∈ us, ws[p]? = some (ws.getD p 0) := fun p hp => by
       rw [List.getD_eq_getElem?_getD, List.getElem?_eq_getElem (hlt p hp)]
       rfl
      have hW : wordsT (us.map fun p => ws.getD p 0) = ws := by
       refine zFz (zBh _) e3 fun z => ?_
       rw [zAy, Qc]
       constructor
       ·rintro ⟨p, hp, rfl⟩
        exact Qg (hget p hp)
       ·intro hz
        obtain ⟨i, hi⟩ := List.getElem?_of_mem hz
        have hil := (List.getElem?_eq_some_iff.1 hi).1
        have hiu := ha2 i (List.mem_range.2 hil)
        rw [List.contains_iff_mem] at hiu
        refine ⟨i, hiu, ?_⟩
        have := hget i hiu
        rw [hi] at this
        exact (Option.some.inj this).symm
      have hP : (us.map fun p => ws.getD p 0).map (placeT ws) = us := by
       rw [List.map_map]
       have : ∀ p ∈ us, (placeT ws ∘ fun p => ws.getD p 0) p = p := fun p hp => zE0 e3 (hget p hp)
       rw [List.map_congr_left this, List.map_id']
      refine ⟨?_, by rw [List.length_map, e7]; rfl, fun x hx => ?_⟩
      ·unfold dictT
       rw [hW, hP, e4, e1, <- hwl, <- e6, Qd]
      ·obtain ⟨p, hp, rfl⟩ := Qc.1 hx
       exact e5 _ (Qg (hget p hp))
     ·cases h
theorem zDf {left : List Nat} {bad : Bool} (h256 : ∀ x ∈ left, x < 256) : ∀ k, (∀ x ∈ (rdPlain k left bad).1, I64 x) ∧ ∀ x ∈ (rdPlain k left bad).2.1, x < 256
 | 0 => ⟨fun x hx => by simp [rdPlain] at hx, h256⟩
 | k + 1 => by
  obtain ⟨h1, h2⟩ := zDf (bad := bad) h256 k
  rw [rdPlain]
  refine ⟨fun x hx => ?_, zEg h2⟩
  rcases Qb.1 hx with hx | hx
  ·exact h1 x hx
  ·obtain rfl := Qa.1 hx
   exact zB8 h2
theorem zGz (count : Nat) (all : List Int) : ∀ (f : Nat) (l : List Int) (left : List Nat) (bad : Bool), (∀ x ∈ left, x < 256) -> (∀ x ∈ l, I64 x) -> l.length <= count -> count - l.length <= f -> rdRuns f count l left bad = some all -> (∀ x ∈ all, I64 x) ∧ all.length = count := by
 have base : ∀ (l : List Int) (left : List Nat) (bad : Bool), (∀ x ∈ l, I64 x) -> l.length = count -> wholeT l left bad = some all -> (∀ x ∈ all, I64 x) ∧ all.length = count := by
  intro l left bad hg hl h
  unfold wholeT at h
  split at h
  ·cases h; exact ⟨hg, hl⟩
  ·cases h
 intro f
 induction f with
 | zero => intro l left bad _ hg hl hf h; exact base l left bad hg (by omega) h
 | succ f ih =>
  intro l left bad h256 hg hl hf h
  by_cases hc : count <= l.length
  ·rw [zBa _ _ _ _ _ hc] at h
   exact base l left bad hg (by omega) h
  ·rw [rdRuns, if_neg hc] at h
   have hm := zBz (bad := bad) h256
   obtain ⟨n, r1, b1, hn⟩ : ∃ n r1 b1, numR left bad = (n, r1, b1) := ⟨_, _, _, rfl⟩
   rw [hn] at h hm
   simp only at h hm
   have hm2 := zEg (bad := b1) hm
   have hgz := zB8 (bad := b1) hm
   obtain ⟨z, r2, b2, hz⟩ : ∃ z r2 b2, takeR r1 b1 = (z, r2, b2) := ⟨_, _, _, rfl⟩
   rw [hz] at h hm2 hgz
   simp only at h hm2 hgz
   split at h
   ·cases h
   ·next hno =>
    simp only [not_or] at hno
    obtain ⟨h1, h2, h3, h4⟩ := hno
    refine ih _ _ _ hm2 (fun x hx => ?_) (by rw [Qh, Qi]; omega) (by rw [Qh, Qi]; omega) h
    rcases Qb.1 hx with hx | hx
    ·exact hg x hx
    ·rw [(List.mem_replicate.1 hx).2]; exact hgz
theorem zQ7 {r : List Nat} {c : Nat} {l : List Int} (h256 : ∀ x ∈ r, x < 256) (h : rdFrame c r false = some l) : ∀ x ∈ l, I64 x := by
 unfold rdFrame at h
 by_cases h0 : c = 0
 ·rw [if_pos h0] at h
  unfold wholeT at h
  split at h
  ·cases h; exact fun x hx => by simp at hx
  ·cases h
 ·rw [if_neg h0] at h
  have hg := zB8 (bad := false) h256
  obtain ⟨lo, r1, b1, ht⟩ : ∃ lo r1 b1, takeR r false = (lo, r1, b1) := ⟨_, _, _, rfl⟩
  rw [ht] at h hg
  simp only at h hg
  cases r1 with
  | nil => cases h
  | cons wd rest =>
   simp only at h
   cases hu : unpackB rest (wd : Nat) (c : Int) with
   | none => rw [hu] at h; cases h
   | some us =>
    rw [hu] at h
    simp only at h
    split at h
    ·cases h
    ·next hno =>
     simp only [not_or, Decidable.not_not] at hno
     obtain ⟨g1, g2, g3⟩ := hno
     cases h
     intro x hx
     obtain ⟨u, hu2, rfl⟩ := Qc.1 hx
     have hlen : 0 < us.length := List.length_pos_of_mem hu2
     have := ((zKs hlen).1 u hu2).2
     unfold I64 at hg ⊢
     omega
theorem zI4 {k : Nat} {r : List Nat} {count : Int} {l : List Int} (h256 : ∀ x ∈ r, x < 256) (h : decT (k :: r) count = some l) : 1 <= k ∧ k <= 4 ∧ r = kindT (k : Int) l ∧ (l.length : Int) = count ∧ l.length <= 65535 ∧ ∀ x ∈ l, I64 x := by
 unfold decT at h
 simp only at h
 split at h
 ·cases h
 ·next hc =>
  simp only [not_or] at hc
  obtain ⟨hc1, hc2⟩ := hc
  obtain ⟨c, rfl⟩ : ∃ c : Nat, count = (c : Int) := ⟨count.toNat, by omega⟩
  rw [Int.toNat_natCast] at h
  split at h
  ·next hk =>
   subst hk
   have e := zI3 h256 h
   have hl : l = (rdPlain c r false).1 := by unfold wholeT at h; split at h <;> cases h; rfl
   have hlen : l.length = c := by rw [hl, zCc]
   exact ⟨by omega, by omega, e, by omega, by omega, by rw [hl]; exact (zDf h256 c).1⟩
  ·split at h
   ·next hk =>
    subst hk
    have e := zKi h256 h
    obtain ⟨g1, g2⟩ := zGz c l c [] r false h256 (fun x hx => by simp at hx) (by simp) (by simp) h
    exact ⟨by omega, by omega, e, by omega, by omega, g1⟩
   ·split at h
    ·next hk =>
     subst hk
     obtain ⟨e, g2⟩ := zS5 h256 h
     exact ⟨by omega, by omega, e, by omega, by omega, zQ7 h256 h⟩
    ·split at h
     ·next hk =>
      subst hk
      obtain ⟨e, g2, g1⟩ := zKj h256 h
      exact ⟨by omega, by omega, e, by omega, by omega, g1⟩
     ·cases h
end Go.Proofs.YtmpgnjhgegbdkaaGreat
namespace Go.Proofs.YtmpgnjhgegbdkaaGreat.Bc
open Go.RowKit
open _root_.List renaming append_assoc -> Qa, replicate -> Qb, mem_singleton -> Qc, mem_append -> Qd, take_append_drop -> Qe, map_append -> Qf, flatten_append -> Qg, map_singleton -> Qh, flatten_singleton -> Qi, pairwise_append -> Qj, all_eq_true -> Qk, mem_map -> Ql, mem_of_getElem? -> Qm, length_append -> Qn, length_replicate -> Qo
theorem zD2 {left : List Nat} : (takeR left true).2.2 = true := by
 unfold takeR
 split
 ·rfl
 ·split <;> rfl
theorem zB8 {left : List Nat} {bad : Bool} (h : ∀ x ∈ left, x < 256) : Fit (takeR left bad).1 := zIw left bad h
theorem zEg {left : List Nat} {bad : Bool} (h : ∀ x ∈ left, x < 256) : ∀ x ∈ (takeR left bad).2.1, x < 256 := zB4 h
theorem zBw {left rest : List Nat} {z : By} {bad : Bool} (h256 : ∀ x ∈ left, x < 256) (h : takeR left bad = (z, rest, false)) : left = putT z ++ rest ∧ bad = false := by
 unfold takeR at h
 cases hn : nextC left with
 | none => rw [hn] at h; simp at h
 | some p =>
  obtain ⟨u, n⟩ := p
  rw [hn] at h
  simp only at h
  split at h
  ·simp at h
  ·next hc =>
   simp only [Prod.mk.injEq] at h
   obtain ⟨rfl, rfl, rfl⟩ := h
   refine ⟨?_, rfl⟩
   have e := zJv left u n h256 hn
   have hlen : ((left.drop n).take u).length = u := by rw [List.length_take, List.length_drop]; omega
   unfold putT bytesC
   rw [hlen, <- e, <- List.drop_drop, Qa, Qe, Qe]
theorem zCw {left : List Nat} (h256 : ∀ x ∈ left, x < 256) : ∀ (k : Nat) (l : List By) (rest : List Nat), rdPlain k left false = (l, rest, false) -> left = plainT l ++ rest
 | 0, l, rest, h => by
  rw [rdPlain] at h
  simp only [Prod.mk.injEq] at h
  obtain ⟨rfl, rfl, _⟩ := h
  rfl
 | k + 1, l, rest, h => by
  rw [rdPlain] at h
  obtain ⟨l1, r1, b1, hk⟩ : ∃ l1 r1 b1, rdPlain k left false = (l1, r1, b1) := ⟨_, _, _, rfl⟩
  rw [hk] at h
  simp only [Prod.mk.injEq] at h
  obtain ⟨rfl, h2⟩ := h
  have hb : b1 = false := by
   cases b1 with
   | false => rfl
   | true =>
    have h3 : (takeR r1 true).2.2 = true := zD2
    rw [h2] at h3
    simp at h3
  subst hb
  have ih := zCw h256 k l1 r1 hk
  have h256r : ∀ x ∈ r1, x < 256 := by rw [ih] at h256; exact zBn h256
  obtain ⟨z, hz⟩ : ∃ z, z = (takeR r1 false).1 := ⟨_, rfl⟩
  have h4 : takeR r1 false = (z, rest, false) := by rw [hz, <- h2]
  obtain ⟨h5, _⟩ := zBw h256r h4
  rw [<- hz, ih, h5]
  unfold plainT
  rw [Qf, Qg, Qh, Qi, Qa]
theorem zI3 {r : List Nat} {c : Nat} {l : List By} (h256 : ∀ x ∈ r, x < 256) (h : wholeT (rdPlain c r false).1 (rdPlain c r false).2.1 (rdPlain c r false).2.2 = some l) : r = plainT l := by
 unfold wholeT at h
 split at h
 ·next hc =>
  cases h
  have := zCw h256 c (rdPlain c r false).1 [] (Prod.ext rfl (Prod.ext hc.2 hc.1))
  simpa using this
 ·cases h
theorem zHd {z : By} {m : List By} (hm : m[0]? ≠ some z) : ∀ n, grp (Qb (n + 1) z ++ m) = (n + 1, z) :: grp m
 | 0 => by
  show grp (z :: m) = _
  rw [grp]
  cases m with
  | nil => rfl
  | cons b r =>
   obtain ⟨k, _, _, h3, _, _⟩ := zFx b r
   rw [h3]
   have hne : ¬ z = b := fun e => hm (by rw [e]; rfl)
   show (if z = b then _ else _) = _
   rw [if_neg hne]
 | n + 1 => by
  have ih := zHd hm n
  have e : Qb (n + 1 + 1) z ++ m = z :: (Qb (n + 1) z ++ m) := by rw [List.replicate_succ]; rfl
  rw [e, grp, ih]
  show (if z = z then _ else _) = _
  rw [if_pos rfl]
theorem zKh {z : By} {m : List By} {n : Nat} (hn : n ≠ 0) (hm : m[0]? ≠ some z) : runsT (Qb n z ++ m) = numC n ++ putT z ++ runsT m := by
 cases n with
 | zero => exact absurd rfl hn
 | succ n =>
  unfold runsT
  rw [zHd hm n, List.map_cons, List.flatten_cons]
theorem zF7 (count : Nat) (all : List By) : ∀ (f : Nat) (l : List By) (left : List Nat) (bad : Bool), (∀ x ∈ left, x < 256) -> rdRuns f count l left bad = some all -> ∃ m, all = l ++ m ∧ left = runsT m ∧ bad = false ∧ ∀ z, l.getLast? = some z -> m[0]? ≠ some z := by
 have base : ∀ (l : List By) (left : List Nat) (bad : Bool), wholeT l left bad = some all -> ∃ m, all = l ++ m ∧ left = runsT m ∧ bad = false ∧ ∀ z, l.getLast? = some z -> m[0]? ≠ some z := by
  intro l left bad h
  unfold wholeT at h
  split at h
  ·next hc =>
   cases h
   exact ⟨[], by simp, by rw [hc.2]; rfl, hc.1, fun z _ => by simp⟩
  ·cases h
 intro f
 induction f with
 | zero => intro l left bad _ h; exact base l left bad h
 | succ f ih =>
  intro l left bad h256 h
  by_cases hc : count <= l.length
  ·rw [zBa _ _ _ _ _ hc] at h
   exact base l left bad h
  ·rw [rdRuns, if_neg hc] at h
   obtain ⟨n, r1, b1, hn⟩ : ∃ n r1 b1, numR left bad = (n, r1, b1) := ⟨_, _, _, rfl⟩
   rw [hn] at h
   simp only at h
   obtain ⟨z, r2, b2, hz⟩ : ∃ z r2 b2, takeR r1 b1 = (z, r2, b2) := ⟨_, _, _, rfl⟩
   rw [hz] at h
   simp only at h
   split at h
   ·cases h
   ·next hno =>
    simp only [not_or] at hno
    obtain ⟨h1, h2, h3, h4⟩ := hno
    have hb2 : b2 = false := by simpa using h1
    subst hb2
    have hb1 : b1 = false := by
     cases b1 with
     | false => rfl
     | true => have := zD2 (left := r1); rw [hz] at this; simp at this
    subst hb1
    obtain ⟨e1, e2⟩ := zEf h256 hn
    have h256r : ∀ x ∈ r1, x < 256 := by rw [e1] at h256; exact zBn h256
    obtain ⟨e3, _⟩ := zBw h256r hz
    have h256s : ∀ x ∈ r2, x < 256 := by rw [e3] at h256r; exact zBn h256r
    obtain ⟨m, g1, g2, g3, g4⟩ := ih _ _ _ h256s h
    have hlast : (l ++ Qb n z).getLast? = some z := by
     cases n with
     | zero => exact absurd rfl h2
     | succ n => rw [List.replicate_succ', <- Qa, List.getLast?_append]; simp
    have hm := g4 z hlast
    refine ⟨Qb n z ++ m, by rw [g1, Qa], by rw [zKh h2 hm, e1, e3, g2, Qa], e2, fun y hy e => ?_⟩
    have hz0 : (Qb n z ++ m)[0]? = some z := by
     cases n with
     | zero => exact absurd rfl h2
     | succ n => rfl
    rw [hz0] at e
    have e5 : z = y := Option.some.inj e
    apply h4
    unfold lastIs
    rw [hy, e5]
    simp
theorem zKi {r : List Nat} {c : Nat} {l : List By} (h256 : ∀ x ∈ r, x < 256) (h : rdRuns c c [] r false = some l) : r = runsT l := by
 obtain ⟨m, h1, h2, _, _⟩ := zF7 c l c [] r false h256 h
 rw [h1, h2]
 rfl
theorem zCx {left : List Nat} {bad : Bool} (h256 : ∀ x ∈ left, x < 256) : ∀ (k : Nat) (ws : List By) (rest : List Nat), rdWords k left bad = some (ws, rest, false) -> left = plainT ws ++ rest ∧ bad = false ∧ ws.Pairwise ltB ∧ ∀ x ∈ ws, Fit x
 | 0, ws, rest, h => by
  rw [rdWords] at h
  simp only [Option.some.injEq, Prod.mk.injEq] at h
  obtain ⟨rfl, rfl, rfl⟩ := h
  exact ⟨rfl, rfl, List.Pairwise.nil, fun x hx => by simp at hx⟩
 | k + 1, ws, rest, h => by
  rw [rdWords] at h
  cases hk : rdWords k left bad with
  | none => rw [hk] at h; cases h
  | some p =>
   obtain ⟨w1, l1, b1⟩ := p
   rw [hk] at h
   simp only at h
   obtain ⟨z, r2, b2, hz⟩ : ∃ z r2 b2, takeR l1 b1 = (z, r2, b2) := ⟨_, _, _, rfl⟩
   rw [hz] at h
   simp only at h
   split at h
   ·cases h
   ·next hno =>
    simp only [not_or] at hno
    simp only [Option.some.injEq, Prod.mk.injEq] at h
    obtain ⟨rfl, rfl, rfl⟩ := h
    have hb1 : b1 = false := by
     cases b1 with
     | false => rfl
     | true => have := zD2 (left := l1); rw [hz] at this; simp at this
    subst hb1
    obtain ⟨e1, e2, e3, e5⟩ := zCx h256 k w1 l1 hk
    have h256r : ∀ x ∈ l1, x < 256 := by rw [e1] at h256; exact zBn h256
    obtain ⟨e4, _⟩ := zBw h256r hz
    have hgz : Fit z := by have := zB8 (bad := false) h256r; rw [hz] at this; exact this
    refine ⟨by rw [e1, e4]; unfold plainT; rw [Qf, Qg, Qh, Qi, Qa], e2, ?_, fun x hx => ?_⟩
    ·rw [Qj]
     refine ⟨e3, List.pairwise_singleton _ _, fun a ha b hb => ?_⟩
     obtain rfl := Qc.1 hb
     cases hl : w1.getLast? with
     | none => rw [List.getLast?_eq_none_iff] at hl; subst hl; simp at ha
     | some y =>
      obtain ⟨ys, rfl⟩ := List.getLast?_eq_some_iff.1 hl
      have hyz : ltB y b := Classical.byContradiction fun h => hno.2 ⟨y, hl, h⟩
      rcases Qd.1 ha with ha | ha
      ·exact zE8 ((Qj.1 e3).2.2 a ha y List.mem_cons_self) hyz
      ·obtain rfl := Qc.1 ha
       exact hyz
    ·rcases Qd.1 hx with hx | hx
     ·exact e5 x hx
     ·obtain rfl := Qc.1 hx
      exact hgz
theorem zKj {r : List Nat} {c : Nat} {l : List By} (h256 : ∀ x ∈ r, x < 256) (h : rdDict c r false = some l) : r = dictT l ∧ l.length = c ∧ ∀ x ∈ l, Fit x := by
 unfold rdDict at h
 have hl1 := zBz (bad := false) h256
 have hnlt := zCi r false
 obtain ⟨n, l1, b1, hn⟩ : ∃ n l1 b1, numR r false = (n, l1, b1) := ⟨_, _, _, rfl⟩
 rw [hn] at h hl1 hnlt
 simp only at h hl1 hnlt
 split at h
 ·cases h
 ·next hc =>
  cases hw : rdWords n l1 b1 with
  | none => rw [hw] at h; cases h
  | some p =>
   obtain ⟨ws, l2, b2⟩ := p
   rw [hw] at h
   simp only at h
   split at h
   ·cases h
   ·next hb =>
    have hb2 : b2 = false := by simpa using hb
    subst hb2
    cases hu : unpackB l2 (Lib.bitLen (ws.length - 1) : Nat) (c : Int) with
    | none => rw [hu] at h; cases h
    | some us =>
     rw [hu] at h
     simp only at h
     split at h
     ·next hall =>
      cases h
      obtain ⟨e1, rfl, e3, e5⟩ := zCx hl1 n ws l2 hw
      have hwl := zCf n ws l2 false hw
      obtain ⟨e4, _⟩ := zEf h256 hn
      have hl2 : ∀ x ∈ l2, x < 256 := by rw [e1] at hl1; exact zBn hl1
      obtain ⟨e6, e7⟩ := zF8 hl2 hu
      rw [zDr _ (bitLen_le (ws.length - 1) (by omega)).1] at e6
      unfold allUsedT at hall
      rw [Bool.and_eq_true, Qk, Qk] at hall
      obtain ⟨ha1, ha2⟩ := hall
      have hlt : ∀ p ∈ us, p < ws.length := fun p hp => by have := ha1 p hp; rwa [decide_eq_true_iff] at this
      have hget : ∀ p ∈ us, ws[p]? = some (ws.getD p []) := fun p hp => by
       rw [List.getD_eq_getElem?_getD, List.getElem?_eq_getElem (hlt p hp)]
       rfl
      have hW : wordsT (us.map fun p => ws.getD p []) = ws := by
       refine zFz (zBh _) e3 fun z => ?_
       rw [zAy, Ql]
       constructor
       ·rintro ⟨p, hp, rfl⟩
        exact Qm (hget p hp)
       ·intro hz
        obtain ⟨i, hi⟩ := List.getElem?_of_mem hz
        have hil := (List.getElem?_eq_some_iff.1 hi).1
        have hiu := ha2 i (List.mem_range.2 hil)
        rw [List.contains_iff_mem] at hiu
        refine ⟨i, hiu, ?_⟩
        have := hget i hiu
        rw [hi] at this
        exact (Option.some.inj this).symm
      have hP : (us.map fun p => ws.getD p []).map (placeT ws) = us := by
       rw [List.map_map]
       have : ∀ p ∈ us, (placeT ws ∘ fun p => ws.getD p []) p = p := fun p hp => zE0 e3 (hget p hp)
       rw [List.map_congr_left this, List.map_id']
      refine ⟨?_, by rw [List.length_map, e7]; rfl, fun x hx => ?_⟩
      ·unfold dictT
       rw [hW, hP, e4, e1, <- hwl, <- e6, Qa]
      ·obtain ⟨p, hp, rfl⟩ := Ql.1 hx
       exact e5 _ (Qm (hget p hp))
     ·cases h
theorem zDf {left : List Nat} {bad : Bool} (h256 : ∀ x ∈ left, x < 256) : ∀ k, (∀ x ∈ (rdPlain k left bad).1, Fit x) ∧ ∀ x ∈ (rdPlain k left bad).2.1, x < 256
 | 0 => ⟨fun x hx => by simp [rdPlain] at hx, h256⟩
 | k + 1 => by
  obtain ⟨h1, h2⟩ := zDf (bad := bad) h256 k
  rw [rdPlain]
  refine ⟨fun x hx => ?_, zEg h2⟩
  rcases Qd.1 hx with hx | hx
  ·exact h1 x hx
  ·obtain rfl := Qc.1 hx
   exact zB8 h2
theorem zGz (count : Nat) (all : List By) : ∀ (f : Nat) (l : List By) (left : List Nat) (bad : Bool), (∀ x ∈ left, x < 256) -> (∀ x ∈ l, Fit x) -> l.length <= count -> count - l.length <= f -> rdRuns f count l left bad = some all -> (∀ x ∈ all, Fit x) ∧ all.length = count := by
 have base : ∀ (l : List By) (left : List Nat) (bad : Bool), (∀ x ∈ l, Fit x) -> l.length = count -> wholeT l left bad = some all -> (∀ x ∈ all, Fit x) ∧ all.length = count := by
  intro l left bad hg hl h
  unfold wholeT at h
  split at h
  ·cases h; exact ⟨hg, hl⟩
  ·cases h
 intro f
 induction f with
 | zero => intro l left bad _ hg hl hf h; exact base l left bad hg (by omega) h
 | succ f ih =>
  intro l left bad h256 hg hl hf h
  by_cases hc : count <= l.length
  ·rw [zBa _ _ _ _ _ hc] at h
   exact base l left bad hg (by omega) h
  ·rw [rdRuns, if_neg hc] at h
   have hm := zBz (bad := bad) h256
   obtain ⟨n, r1, b1, hn⟩ : ∃ n r1 b1, numR left bad = (n, r1, b1) := ⟨_, _, _, rfl⟩
   rw [hn] at h hm
   simp only at h hm
   have hm2 := zEg (bad := b1) hm
   have hgz := zB8 (bad := b1) hm
   obtain ⟨z, r2, b2, hz⟩ : ∃ z r2 b2, takeR r1 b1 = (z, r2, b2) := ⟨_, _, _, rfl⟩
   rw [hz] at h hm2 hgz
   simp only at h hm2 hgz
   split at h
   ·cases h
   ·next hno =>
    simp only [not_or] at hno
    obtain ⟨h1, h2, h3, h4⟩ := hno
    refine ih _ _ _ hm2 (fun x hx => ?_) (by rw [Qn, Qo]; omega) (by rw [Qn, Qo]; omega) h
    rcases Qd.1 hx with hx | hx
    ·exact hg x hx
    ·rw [(List.mem_replicate.1 hx).2]; exact hgz
theorem zI4 {k : Nat} {r : List Nat} {count : Int} {l : List By} (h256 : ∀ x ∈ r, x < 256) (h : decT (k :: r) count = some l) : (k = 1 ∨ k = 2 ∨ k = 4) ∧ r = kindT (k : Int) l ∧ (l.length : Int) = count ∧ l.length <= 65535 ∧ ∀ x ∈ l, Fit x := by
 unfold decT at h
 simp only at h
 split at h
 ·cases h
 ·next hc =>
  simp only [not_or] at hc
  obtain ⟨hc1, hc2⟩ := hc
  obtain ⟨c, rfl⟩ : ∃ c : Nat, count = (c : Int) := ⟨count.toNat, by omega⟩
  rw [Int.toNat_natCast] at h
  split at h
  ·next hk =>
   subst hk
   have e := zI3 h256 h
   have hl : l = (rdPlain c r false).1 := by unfold wholeT at h; split at h <;> cases h; rfl
   have hlen : l.length = c := by rw [hl, zCc]
   exact ⟨.inl rfl, e, by omega, by omega, by rw [hl]; exact (zDf h256 c).1⟩
  ·split at h
   ·next hk =>
    subst hk
    have e := zKi h256 h
    obtain ⟨g1, g2⟩ := zGz c l c [] r false h256 (fun x hx => by simp at hx) (by simp) (by simp) h
    exact ⟨.inr (.inl rfl), e, by omega, by omega, g1⟩
   ·split at h
    ·next hk =>
     subst hk
     obtain ⟨e, g2, g1⟩ := zKj h256 h
     exact ⟨.inr (.inr rfl), e, by omega, by omega, g1⟩
    ·cases h
end Go.Proofs.YtmpgnjhgegbdkaaGreat.Bc
