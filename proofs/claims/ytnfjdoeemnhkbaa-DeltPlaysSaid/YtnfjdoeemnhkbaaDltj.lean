/-
  The contracts of layer 12 over a store that is known (StoD).
-/
import Derived.Test.YtnfjdoeemnhkbaaDlpm
import Derived.Test.YtnfjdoeemnhkbaaDlth
import Derived.Test.YtnfjdoeemnhkbaaDlti
import Derived.Test.YtnfjdoeemnhkbaaLsix
namespace Go.Proofs.Ytnfjdoeemnhkbaa
set_option linter.unusedVariables false
set_option linter.unusedSimpArgs false
open Go.RowKit

theorem own_some3 {w : World} {K : Nat} {E : TypeId} {sz n cap : Nat} {ao : Option Addr} {xs : List Value} (h : w.ownsRow K E sz (.slice ao n cap) n xs) (hn : 0 < n) : ∃ g, ao = some ⟨g, 0, none⟩ := by
  rcases h.2 with ⟨_, h1⟩ | ⟨g, c, cur, h1, _⟩
  · omega
  · simp only [Value.slice.injEq] at h1; exact ⟨g, h1.1⟩
theorem rowOk_b {r : List Vc} {l : List (Vc × Value)} (h : RowOk r) (hl : l.map Prod.fst = r) : l.length ≤ 1000000 ∧ ∀ t ∈ l, t.1.b.length ≤ 1000000 := by
  subst hl
  exact ⟨by have := h.1; rwa [List.length_map] at this, fun t ht => h.2 t.1 (List.mem_map_of_mem ht)⟩
theorem no_of {vr : List DV} {t : Int} (h : hasV vr t = false) : ∀ y ∈ VrS vr, y.i ≠ t := fun y hy => by
  obtain ⟨x, hx, rfl⟩ := List.mem_map.1 hy
  exact hasV_false h x hx

set_option maxHeartbeats 2000000 in
theorem dadd_any {K : Nat} {X : Nat → Prop} {w : World} {D most n : Nat} {va : Option Addr} {vc : Nat} {vr : List DV} (h : StoD K X w D most n va vc vr) (hm : n < most) (t s1 s2 s3 s4 : Int) (xra : Option Addr) (xrn xrc : Nat) (r : List Vc) (hr : RdRow w (.slice xra xrn xrc) r) (hok : RowOk r) (hno : hasV vr t = false) :
    Calls Try.prog 36 #[.pointer (some ⟨D, 0, none⟩), .agg #[.int .i64 t, .slice xra xrn xrc, .int .i64 s1, .int .i64 s2, .int .i64 s3, .int .i64 s4]] w fun e w' => e = .returned (.bool true) ∧ ∃ (ao : Option Addr) (cap : Nat) (na : Option Addr) (nn nc p : Nat), p ≤ n ∧
      StoD K (fun b => X b ∨ (Value.slice ao (n + 1) cap).ownBlock = some b) w' D most (n + 1) ao cap (vr.take p ++ [((⟨t, na, nn, nc, s1, s2, s3, s4⟩ : Vr), r)] ++ vr.drop p) ∧ (∀ g, (Value.slice ao (n + 1) cap).ownBlock = some g → (Value.slice va n vc).ownBlock = some g ∨ w.heap.size ≤ g) ∧ Agree (YD D (.slice va n vc)) w w' ∧ Below K w w' := by
  obtain ⟨l, hl, hx⟩ := hr
  obtain ⟨hll, hbig⟩ := rowOk_b hok hl
  have hn := h.lenS
  have hno2 := no_of hno
  have hle : (VrS vr).length ≤ 10000 := by have := h.few; have := h.top; omega
  obtain ⟨p, hp, h1, h2⟩ := place_of h.rise t hno2
  rw [← hn] at hp
  rcases Nat.lt_or_ge p n with hpn | hpn
  · obtain ⟨g, rfl⟩ := own_some3 h.own (by omega)
    have hgD : g ≠ D := fun e => h.ne (by rw [e]; rfl)
    by_cases hc : vc = n
    · subst hc
      refine (dadd_grow (VrS vr) hle h.rise g vc D K p (most : Int) t s1 s2 s3 s4 xra xrn xrc l hll w hn h.own h.kd hgD h.hd (by omega) hpn h1 h2 hx hbig).mono ?_
      rintro e w' ⟨rfl, ng, cap, na, nn, nc, l', w1, hng, hd', hown', hl', hra, hab, hs1, hs2, hb, hfr⟩
      obtain ⟨q1, q2, q3⟩ := h.put_in hm hp (x := ⟨t, na, nn, nc, s1, s2, s3, s4⟩) hok h1 h2 hd' hown' (hl'.trans hl) hra hab hs1 hs2 (fun g' hg' => .inr (by have e1 : ng = g' := (by simpa [Value.ownBlock] using hg'); omega)) hb (fun b hb1 hb2 _ => hfr b hb1 hb2)
      exact ⟨rfl, _, _, na, nn, nc, p, hp, q1, q2, q3, hb⟩
    · have hroom : n < vc := by
        obtain ⟨_, _, h5, _⟩ := own_block h.own
        omega
      refine (dadd_mid (VrS vr) hle h.rise g n vc D K p (most : Int) t s1 s2 s3 s4 xra xrn xrc l hll w hn h.own h.kd hgD h.hd (by omega) hpn hroom h1 h2 hx hbig).mono ?_
      rintro e w' ⟨rfl, na, nn, nc, l', w1, hd', hown', hl', hra, hab, hs1, hs2, hb, hfr⟩
      obtain ⟨q1, q2, q3⟩ := h.put_in hm hp (x := ⟨t, na, nn, nc, s1, s2, s3, s4⟩) hok h1 h2 hd' hown' (hl'.trans hl) hra hab hs1 hs2 (fun g' hg' => .inl (by simpa [Value.ownBlock] using hg')) hb (fun b hb1 hb2 hb3 => hfr b hb1 hb2 (fun e => hb3 (by rw [e]; rfl)))
      exact ⟨rfl, _, _, na, nn, nc, p, hp, q1, q2, q3, hb⟩
  · obtain rfl : p = n := by omega
    have e1 : (VrS vr).take p = VrS vr := List.take_of_length_le (by omega)
    have e2 : (VrS vr).drop p = [] := List.drop_eq_nil_of_le (by omega)
    refine (dadd_end (VrS vr) hle h.rise va p vc D K (most : Int) t s1 s2 s3 s4 xra xrn xrc l hll w hn h.own h.kd h.ne h.hd (by omega) (fun y hy => by obtain ⟨j, hj⟩ := List.getElem?_of_mem hy; exact h1 j y (by have := (List.getElem?_eq_some_iff.1 hj).1; omega) hj) hx hbig).mono ?_
    rintro e w' ⟨rfl, ao, cap, na, nn, nc, l', w1, hd', hown', hl', hra, hab, hs1, hs2, hng, hb, hfr⟩
    obtain ⟨q1, q2, q3⟩ := h.put_in hm hp (x := ⟨t, na, nn, nc, s1, s2, s3, s4⟩) hok h1 h2 hd' (by rw [e1, e2, List.append_nil]; exact hown') (hl'.trans hl) hra hab hs1 hs2 hng hb (fun b hb1 hb2 hb3 => hfr b hb1 hb2 hb3)
    exact ⟨rfl, _, _, na, nn, nc, p, hp, q1, q2, q3, hb⟩

theorem dadd_not {K : Nat} {X : Nat → Prop} {w : World} {D most n : Nat} {va : Option Addr} {vc : Nat} {vr : List DV} (h : StoD K X w D most n va vc vr) (t s1 s2 s3 s4 : Int) (xra : Option Addr) (xrn xrc : Nat) (hno : most ≤ n ∨ hasV vr t = true) :
    Calls Try.prog 36 #[.pointer (some ⟨D, 0, none⟩), .agg #[.int .i64 t, .slice xra xrn xrc, .int .i64 s1, .int .i64 s2, .int .i64 s3, .int .i64 s4]] w fun e w' => e = .returned (.bool false) ∧ Below w.heap.size w w' :=
  dadd_no (VrS vr) (by rw [← h.lenS]; have := h.few; have := h.top; omega) h.rise va n vc D (most : Int) t s1 s2 s3 s4 xra xrn xrc w h.lenS h.rd h.hd (hno.imp (fun e => by omega) fun e => by
    obtain ⟨p, x, hp, hx⟩ := hasV_true e
    exact ⟨x.1, List.mem_of_getElem? (vrS_at hp), hx⟩)

theorem dset_any {K : Nat} {X : Nat → Prop} {w : World} {D most n : Nat} {va : Option Addr} {vc : Nat} {vr : List DV} (h : StoD K X w D most n va vc vr) (p : Nat) (x : DV) (hp : vr[p]? = some x) (y1 y2 y3 y4 : Int) :
    Calls Try.prog 37 #[.pointer (some ⟨D, 0, none⟩), .int .i64 x.1.i, .agg #[.int .i64 y1, .int .i64 y2, .int .i64 y3, .int .i64 y4]] w fun e w' => e = .returned (.bool true) ∧ StoD K X w' D most n va vc (vr.set p ((⟨x.1.i, x.1.ra, x.1.rn, x.1.rc, y1, y2, y3, y4⟩ : Vr), x.2)) ∧ Agree (YD D (.slice va n vc)) w w' ∧ Below K w w' := by
  have hn := h.lenS
  have hpl := (List.getElem?_eq_some_iff.1 hp).1
  obtain ⟨g, rfl⟩ := own_some3 h.own (by have := h.len; omega)
  refine (dset_at (VrS vr) (by have := h.few; have := h.top; omega) h.rise g n vc D K (most : Int) x.1.i p x.1 y1 y2 y3 y4 w hn h.own h.kd (fun e => h.ne (by rw [e]; rfl)) h.hd (vrS_at hp) rfl).mono ?_
  rintro e w' ⟨rfl, hd', hown', hs, hb, hfr⟩
  obtain ⟨q1, q2⟩ := h.turn (vr' := vr.set p ((⟨x.1.i, x.1.ra, x.1.rn, x.1.rc, y1, y2, y3, y4⟩ : Vr), x.2)) (by rw [List.length_set, h.len]) (Nat.le_refl _) (by rw [vrS_set]; exact rise_set h.rise p x.1 _ (vrS_at hp) rfl) hd' (by rw [vrS_set]; exact hown') rfl hs hb (fun b h1 _ h3 => hfr b h1 (fun e => h3 (by rw [e]; rfl)))
    (fun hA y hy => by
      rcases List.mem_or_eq_of_mem_set hy with h1 | h1
      · exact ⟨h.ok y h1, h.row_to hA h1⟩
      · subst h1
        exact ⟨h.ok x (List.mem_of_getElem? hp), h.row_to (x := x) hA (List.mem_of_getElem? hp)⟩)
  exact ⟨rfl, q1, q2, hb⟩

theorem dset_not {K : Nat} {X : Nat → Prop} {w : World} {D most n : Nat} {va : Option Addr} {vc : Nat} {vr : List DV} (h : StoD K X w D most n va vc vr) (t : Int) (hno : hasV vr t = false) (y1 y2 y3 y4 : Int) :
    Calls Try.prog 37 #[.pointer (some ⟨D, 0, none⟩), .int .i64 t, .agg #[.int .i64 y1, .int .i64 y2, .int .i64 y3, .int .i64 y4]] w fun e w' => e = .returned (.bool false) ∧ Below w.heap.size w w' :=
  dset_no (VrS vr) (by rw [← h.lenS]; have := h.few; have := h.top; omega) h.rise va n vc D (most : Int) t w h.lenS h.rd h.hd (no_of hno) y1 y2 y3 y4

theorem dput_any {K : Nat} {X : Nat → Prop} {w : World} {D most n : Nat} {va : Option Addr} {vc : Nat} {vr : List DV} (h : StoD K X w D most n va vc vr) (p : Nat) (x : DV) (hp : vr[p]? = some x) (ra : Option Addr) (rn rc : Nat) (r : List Vc) (hr : RdRow w (.slice ra rn rc) r) (hok : RowOk r) :
    Calls Try.prog 38 #[.pointer (some ⟨D, 0, none⟩), .int .i64 x.1.i, .slice ra rn rc] w fun e w' => e = .returned (.bool true) ∧ ∃ (na : Option Addr) (nn nc : Nat), StoD K X w' D most n va vc (vr.set p ((⟨x.1.i, na, nn, nc, x.1.s1, x.1.s2, x.1.s3, x.1.s4⟩ : Vr), r)) ∧ Agree (YD D (.slice va n vc)) w w' ∧ Below K w w' := by
  have hn := h.lenS
  have hpl := (List.getElem?_eq_some_iff.1 hp).1
  obtain ⟨l, hl, hx⟩ := hr
  obtain ⟨hll, hbig⟩ := rowOk_b hok hl
  obtain ⟨g, rfl⟩ := own_some3 h.own (by have := h.len; omega)
  have hgw : g < w.heap.size := own_lt2 h.own g rfl
  refine (dput_at (VrS vr) (by have := h.few; have := h.top; omega) h.rise g n vc D K (most : Int) x.1.i p x.1 ra rn rc l hll w hn h.own h.kd (fun e => h.ne (by rw [e]; rfl)) h.hd (vrS_at hp) rfl hx hbig).mono ?_
  rintro e w' ⟨rfl, na, nn, nc, l', w1, hd', hown', hl', hra, hab, hs1, hs2, hb, hfr⟩
  obtain ⟨q1, q2⟩ := h.turn (vr' := vr.set p ((⟨x.1.i, na, nn, nc, x.1.s1, x.1.s2, x.1.s3, x.1.s4⟩ : Vr), r)) (by rw [List.length_set, h.len]) (Nat.le_refl _) (by rw [vrS_set]; exact rise_set h.rise p x.1 _ (vrS_at hp) rfl) hd' (by rw [vrS_set]; exact hown') rfl (by omega) hb (fun b h1 _ h3 => hfr b h1 (fun e => h3 (by rw [e]; rfl)))
    (fun hA y hy => by
      rcases List.mem_or_eq_of_mem_set hy with h1 | h1
      · exact ⟨h.ok y h1, h.row_to hA h1⟩
      · subst h1
        refine ⟨hok, fun w2 ha2 => ⟨l', hl'.trans hl, (hra.above (fun b hb1 hb2 => ?_) (Nat.le_refl _)).rd⟩⟩
        exact (ha2.block b (by omega) (fun e => by have := h.xl b e; omega)).trans (hab b hb1 hb2))
  exact ⟨rfl, na, nn, nc, q1, q2, hb⟩

theorem dput_not {K : Nat} {X : Nat → Prop} {w : World} {D most n : Nat} {va : Option Addr} {vc : Nat} {vr : List DV} (h : StoD K X w D most n va vc vr) (t : Int) (hno : hasV vr t = false) (ra : Option Addr) (rn rc : Nat) :
    Calls Try.prog 38 #[.pointer (some ⟨D, 0, none⟩), .int .i64 t, .slice ra rn rc] w fun e w' => e = .returned (.bool false) ∧ Below w.heap.size w w' :=
  dput_no (VrS vr) (by rw [← h.lenS]; have := h.few; have := h.top; omega) h.rise va n vc D (most : Int) t w h.lenS h.rd h.hd (no_of hno) ra rn rc

theorem ddrop_any {K : Nat} {X : Nat → Prop} {w : World} {D most n : Nat} {va : Option Addr} {vc : Nat} {vr : List DV} (h : StoD K X w D most n va vc vr) (p : Nat) (x : DV) (hp : vr[p]? = some x) :
    Calls Try.prog 39 #[.pointer (some ⟨D, 0, none⟩), .int .i64 x.1.i] w fun e w' => e = .returned (.bool true) ∧ StoD K X w' D most (n - 1) va vc (vr.take p ++ vr.drop (p + 1)) ∧ Agree (YD D (.slice va n vc)) w w' ∧ Below K w w' := by
  have hn := h.lenS
  have hpl := (List.getElem?_eq_some_iff.1 hp).1
  obtain ⟨g, rfl⟩ := own_some3 h.own (by have := h.len; omega)
  have hgw : g < w.heap.size := own_lt2 h.own g rfl
  refine (ddrop_at (VrS vr) (by have := h.few; have := h.top; omega) h.rise g n vc D K (most : Int) x.1.i p x.1 w hn h.own h.kd (fun e => h.ne (by rw [e]; rfl)) h.hd (vrS_at hp) rfl).mono ?_
  rintro e w' ⟨rfl, hd', hown', hb, hfr⟩
  have hs : w.heap.size ≤ w'.heap.size := by
    rcases Nat.lt_or_ge w'.heap.size w.heap.size with hlt | hge
    · exfalso
      have hD := (Array.getElem?_eq_some_iff.1 hd').1
      have hg := own_lt2 hown' g rfl
      have h1 := hfr (w.heap.size - 1) (by omega) (by omega) (by omega)
      rw [Array.getElem?_eq_none (by omega), Array.getElem?_eq_getElem (by omega)] at h1
      cases h1
    · exact hge
  obtain ⟨q1, q2⟩ := h.turn (vr' := vr.take p ++ vr.drop (p + 1)) (by rw [len_cutD _ _ hpl, h.len]) (Nat.sub_le _ _) (by rw [vrS_cut]; exact rise_cut h.rise p (by rw [vrS_len]; exact hpl)) hd' (by rw [vrS_cut]; exact hown') rfl hs hb (fun b h1 h2 h3 => hfr b h1 h2 (fun e => h3 (by rw [e]; rfl)))
    (fun hA y hy => ⟨h.ok y (mem_cutD hy), h.row_to hA (mem_cutD hy)⟩)
  exact ⟨rfl, q1, q2, hb⟩

theorem ddrop_not {K : Nat} {X : Nat → Prop} {w : World} {D most n : Nat} {va : Option Addr} {vc : Nat} {vr : List DV} (h : StoD K X w D most n va vc vr) (t : Int) (hno : hasV vr t = false) :
    Calls Try.prog 39 #[.pointer (some ⟨D, 0, none⟩), .int .i64 t] w fun e w' => e = .returned (.bool false) ∧ Below w.heap.size w w' :=
  ddrop_no (VrS vr) (by rw [← h.lenS]; have := h.few; have := h.top; omega) h.rise va n vc D (most : Int) t w h.lenS h.rd h.hd (no_of hno)

theorem dget_is {K : Nat} {X : Nat → Prop} {w : World} {D most n : Nat} {va : Option Addr} {vc : Nat} {vr : List DV} (h : StoD K X w D most n va vc vr) (p : Nat) (x : DV) (hp : vr[p]? = some x) :
    Calls Try.prog 40 #[.pointer (some ⟨D, 0, none⟩), .int .i64 x.1.i] w fun e w' => ∃ (na : Option Addr) (nn nc : Nat), e = .returned (.tuple #[.agg #[.int .i64 x.1.i, .slice na nn nc, .int .i64 x.1.s1, .int .i64 x.1.s2, .int .i64 x.1.s3, .int .i64 x.1.s4], .bool true]) ∧ RdRow w' (.slice na nn nc) x.2 ∧ Below w.heap.size w w' := by
  obtain ⟨l, hl, hx⟩ := (h.rows x (List.mem_of_getElem? hp)).now
  obtain ⟨hll, hbig⟩ := rowOk_b (h.ok x (List.mem_of_getElem? hp)) hl
  refine (dget_any (VrS vr) (by rw [← h.lenS]; have := h.few; have := h.top; omega) h.rise va n vc D (most : Int) x.1.i p x.1 l hll w h.lenS h.rd h.hd (vrS_at hp) rfl hx hbig).mono ?_
  rintro e w' ⟨na, nn, nc, l', rfl, hl', hra, hb⟩
  exact ⟨na, nn, nc, rfl, ⟨l', hl'.trans hl, hra.rd⟩, hb⟩

theorem dget_not {K : Nat} {X : Nat → Prop} {w : World} {D most n : Nat} {va : Option Addr} {vc : Nat} {vr : List DV} (h : StoD K X w D most n va vc vr) (t : Int) (hno : hasV vr t = false) :
    Calls Try.prog 40 #[.pointer (some ⟨D, 0, none⟩), .int .i64 t] w fun e w' => e = .returned (.tuple #[.agg #[.int .i64 0, .slice none 0 0, .int .i64 0, .int .i64 0, .int .i64 0, .int .i64 0], .bool false]) ∧ Below w.heap.size w w' :=
  dget_no (VrS vr) (by rw [← h.lenS]; have := h.few; have := h.top; omega) h.rise va n vc D (most : Int) t w h.lenS h.rd h.hd (no_of hno)

theorem dids_is {K : Nat} {X : Nat → Prop} {w : World} {D most n : Nat} {va : Option Addr} {vc : Nat} {vr : List DV} (h : StoD K X w D most n va vc vr) :
    Calls Try.prog 42 #[.pointer (some ⟨D, 0, none⟩)] w fun e w' => e = .returned (.slice (some ⟨w.heap.size, 0, none⟩) n n) ∧ w'.ownsRow w.heap.size 3 1 (.slice (some ⟨w.heap.size, 0, none⟩) n n) n ((VrS vr).map fun x => .int .i64 x.i) ∧ Below w.heap.size w w' :=
  dids_any (VrS vr) (by rw [← h.lenS]; have := h.few; have := h.top; omega) va n vc D (most : Int) w h.lenS h.rd h.hd

theorem sameR_selfD : ∀ x : List Vc, sameR x x = true
  | [] => rfl
  | a :: r => by rw [sameR, sameR_selfD r, Bool.and_true]; simp [sameT]
set_option maxRecDepth 100000 in
set_option maxHeartbeats 4000000 in
theorem sverD_any (id bt ba et ea : Int) (a1 a2 : Option Addr) (n1 c1 n2 c2 : Nat) (r : List Vc) (w : World) (h1 : RdRow w (.slice a1 n1 c1) r) (h2 : RdRow w (.slice a2 n2 c2) r) (hl : r.length ≤ 1000000) :
    Calls Try.prog 41 #[.agg #[.int .i64 id, .slice a1 n1 c1, .int .i64 bt, .int .i64 ba, .int .i64 et, .int .i64 ea], .agg #[.int .i64 id, .slice a2 n2 c2, .int .i64 bt, .int .i64 ba, .int .i64 et, .int .i64 ea]] w fun e w' => e = .returned (.bool true) ∧ Below w.heap.size w w' := by
  have HS := Lib.hid (fun w' (h : Below w.heap.size w w') => sameRow_any (.slice a1 n1 c1) (.slice a2 n2 c2) r r w' (h1.kept h) (h2.kept h) hl hl)
  rw [sameR_selfD] at HS
  clear h1 h2 hl
  have i1 : (id == id) = true := beq_self_eq_true _
  have i2 : (bt == bt) = true := beq_self_eq_true _
  have i3 : (ba == ba) = true := beq_self_eq_true _
  have i4 : (et == et) = true := beq_self_eq_true _
  have i5 : (ea == ea) = true := beq_self_eq_true _
  go_enter Try.func41, Try.ntmps41
  go_wp2_with fail
  refine (HS.out _ (below2 w _ _)).mono ?_
  rintro e w2 ⟨rfl, hb⟩
  have HB := Lib.hid (below_then (below2 w _ _) hb)
  clear hb
  go_wp2_with fail
  go_ret
  exact ⟨rfl, HB.out⟩

end Go.Proofs.Ytnfjdoeemnhkbaa
