/-
  A store of versions, and a map of the law's own beside it (plain): what both are, and how they go with an Add, a Set, a Put, a Drop.
-/
import Derived.Test.YtnfjdoeemnhkbaaDltg
import Derived.Maps.OwnSet
namespace Go.Proofs.Ytnfjdoeemnhkbaa
set_option linter.unusedVariables false
set_option linter.unusedSimpArgs false
open Go.RowKit

/-- A version, and what its row reads as. -/
abbrev DV := Vr × List Vc
def RowOk (r : List Vc) : Prop := r.length ≤ 1000000 ∧ ∀ v ∈ r, v.b.length ≤ 1000000
def YD (D : Nat) (v : Value) : Nat → Prop := fun b => b = D ∨ v.ownBlock = some b
def VrS (vr : List DV) : List Vr := vr.map Prod.fst

structure StoD (K : Nat) (X : Nat → Prop) (w : World) (D most n : Nat) (va : Option Addr) (vc : Nat) (vr : List DV) : Prop where
  len : vr.length = n
  few : n ≤ most
  top : most ≤ 1000
  rise : Rise (VrS vr)
  hd : w.heap[D]? = some (.cells #[.int .i64 (most : Int), .slice va n vc] 121 (0, 0))
  own : w.ownsRow K 84 6 (.slice va n vc) n ((VrS vr).map Vr.cells).flatten
  ne : (Value.slice va n vc).ownBlock ≠ some D
  kd : K ≤ D
  xd : X D
  xg : ∀ g, (Value.slice va n vc).ownBlock = some g → X g
  xl : ∀ b, X b → b < w.heap.size
  rows : ∀ x ∈ vr, Free X w fun w => RdRow w (.slice x.1.ra x.1.rn x.1.rc) x.2
  ok : ∀ x ∈ vr, RowOk x.2

theorem vrS_len (vr : List DV) : (VrS vr).length = vr.length := List.length_map _
theorem StoD.lenS {K : Nat} {X : Nat → Prop} {w : World} {D most n : Nat} {va : Option Addr} {vc : Nat} {vr : List DV} (h : StoD K X w D most n va vc vr) : n = (VrS vr).length := by rw [vrS_len, h.len]
theorem StoD.rd {K : Nat} {X : Nat → Prop} {w : World} {D most n : Nat} {va : Option Addr} {vc : Nat} {vr : List DV} (h : StoD K X w D most n va vc vr) : RdS w 6 (.slice va n vc) ((VrS vr).map Vr.cells) :=
  rdS_own h.own (by rw [List.length_map]; exact h.lenS) (vr_len _)
theorem StoD.ld {K : Nat} {X : Nat → Prop} {w : World} {D most n : Nat} {va : Option Addr} {vc : Nat} {vr : List DV} (h : StoD K X w D most n va vc vr) : D < w.heap.size := (Array.getElem?_eq_some_iff.1 h.hd).1
theorem own_lt2 {w : World} {B : Nat} {E : TypeId} {size n : Nat} {v : Value} {xs : List Value} (h : w.ownsRow B E size v n xs) : ∀ g, v.ownBlock = some g → g < w.heap.size := by
  intro k hk
  rcases h.2 with ⟨rfl, _⟩ | ⟨g, cap, cur, rfl, hbg, hh, _⟩
  · cases hk
  · have h2 : g = k := by simpa [Value.ownBlock] using hk
    subst h2
    exact (Array.getElem?_eq_some_iff.1 hh).1
theorem StoD.agree {K : Nat} {X Z : Nat → Prop} {w w' : World} {D most n : Nat} {va : Option Addr} {vc : Nat} {vr : List DV} (h : StoD K X w D most n va vc vr) (ha : Agree Z w w') (hz : ∀ i, i < w.heap.size → Z i → X i) (hzd : ¬ Z D) (hzg : ∀ g, (Value.slice va n vc).ownBlock = some g → ¬ Z g) : StoD K X w' D most n va vc vr where
  len := h.len
  few := h.few
  top := h.top
  rise := h.rise
  hd := (ha.block D h.ld hzd).trans h.hd
  own := ownsRow_agree h.own ha hzg
  ne := h.ne
  kd := h.kd
  xd := h.xd
  xg := h.xg
  xl := fun b hb => Nat.lt_of_lt_of_le (h.xl b hb) ha.size
  rows := fun x hx => (h.rows x hx).to ha hz (fun i _ hi => hi)
  ok := h.ok
theorem StoD.kept {K : Nat} {X : Nat → Prop} {w w' : World} {D most n : Nat} {va : Option Addr} {vc : Nat} {vr : List DV} (h : StoD K X w D most n va vc vr) (hb : Below w.heap.size w w') : StoD K X w' D most n va vc vr :=
  h.agree (agree_below hb hb.size) (fun i hi hx => by omega) (by have := h.ld; omega) (fun g hg => by have := own_lt2 h.own g hg; omega)
theorem StoD.mono {K : Nat} {X Y : Nat → Prop} {w : World} {D most n : Nat} {va : Option Addr} {vc : Nat} {vr : List DV} (h : StoD K X w D most n va vc vr) (hxy : ∀ b, X b → Y b) (hyx : ∀ b, Y b → X b) : StoD K Y w D most n va vc vr where
  len := h.len
  few := h.few
  top := h.top
  rise := h.rise
  hd := h.hd
  own := h.own
  ne := h.ne
  kd := h.kd
  xd := hxy _ h.xd
  xg := fun g hg => hxy _ (h.xg g hg)
  xl := fun b hb => h.xl b (hyx b hb)
  rows := fun x hx => (h.rows x hx).mono (fun i _ hi => hyx i hi)
  ok := h.ok

/-- Where a new ID would stand. -/
theorem place_of {vs : List Vr} (hs : Rise vs) (t : Int) (hno : ∀ y ∈ vs, y.i ≠ t) : ∃ p, p ≤ vs.length ∧ (∀ k y, k < p → vs[k]? = some y → y.i < t) ∧ ∀ k y, p ≤ k → vs[k]? = some y → t < y.i := by
  have h : ∀ m, m ≤ vs.length → ∃ p, p ≤ m ∧ (∀ k y, k < p → vs[k]? = some y → y.i < t) ∧ ∀ k y, p ≤ k → k < m → vs[k]? = some y → t < y.i := by
    intro m
    induction m with
    | zero => exact fun _ => ⟨0, Nat.le_refl _, (fun k y h => by omega), fun k y _ h => by omega⟩
    | succ m ih =>
      intro hm
      obtain ⟨p, h1, h2, h3⟩ := ih (by omega)
      obtain ⟨z, hz⟩ : ∃ z, vs[m]? = some z := ⟨_, List.getElem?_eq_getElem (by omega)⟩
      have hzt := hno z (List.mem_of_getElem? hz)
      by_cases hc : z.i < t
      · refine ⟨m + 1, Nat.le_refl _, fun k y hk hy => ?_, fun k y h4 h5 => by omega⟩
        rcases Nat.lt_or_ge k m with h | h
        · have := hs k m y z h hy hz; omega
        · have : k = m := by omega
          subst this
          rw [hz] at hy
          rw [← Option.some.inj hy]
          exact hc
      · refine ⟨p, by omega, h2, fun k y h4 h5 hy => ?_⟩
        rcases Nat.lt_or_ge k m with h | h
        · exact h3 k y h4 h hy
        · have : k = m := by omega
          subst this
          rw [hz] at hy
          rw [← Option.some.inj hy]
          omega
  obtain ⟨p, h1, h2, h3⟩ := h vs.length (Nat.le_refl _)
  exact ⟨p, h1, h2, fun k y hk hy => h3 k y hk (List.getElem?_eq_some_iff.1 hy).1 hy⟩
theorem getElem?_ins {α : Type} (l : List α) (p : Nat) (hp : p ≤ l.length) (x : α) (k : Nat) : (l.take p ++ [x] ++ l.drop p)[k]? = if k < p then l[k]? else if k = p then some x else l[k - 1]? := by
  have hl : (l.take p).length = p := by rw [List.length_take]; omega
  by_cases h1 : k < p
  · rw [if_pos h1, List.append_assoc, List.getElem?_append_left (by omega), List.getElem?_take, if_pos h1]
  · rw [if_neg h1]
    by_cases h2 : k = p
    · subst h2
      rw [if_pos rfl, List.append_assoc, List.getElem?_append_right (by omega), hl, Nat.sub_self]
      rfl
    · rw [if_neg h2, List.getElem?_append_right (by rw [List.length_append, hl]; simp; omega), List.length_append, hl, List.getElem?_drop]
      congr 1
      simp
      omega
theorem rise_ins {vs : List Vr} (hs : Rise vs) (p : Nat) (hp : p ≤ vs.length) (x : Vr) (h1 : ∀ k y, k < p → vs[k]? = some y → y.i < x.i) (h2 : ∀ k y, p ≤ k → vs[k]? = some y → x.i < y.i) : Rise (vs.take p ++ [x] ++ vs.drop p) := by
  intro i j a b hij ha hb
  rw [getElem?_ins vs p hp] at ha hb
  by_cases hi : i < p
  · rw [if_pos hi] at ha
    by_cases hj : j < p
    · rw [if_pos hj] at hb
      exact hs i j a b hij ha hb
    · rw [if_neg hj] at hb
      by_cases hjp : j = p
      · rw [if_pos hjp] at hb
        rw [← Option.some.inj hb]
        exact h1 i a hi ha
      · rw [if_neg hjp] at hb
        exact hs i (j - 1) a b (by omega) ha hb
  · rw [if_neg hi] at ha
    rw [if_neg (by omega), if_neg (by omega)] at hb
    by_cases hip : i = p
    · rw [if_pos hip] at ha
      rw [← Option.some.inj ha]
      exact h2 (j - 1) b (by omega) hb
    · rw [if_neg hip] at ha
      exact hs (i - 1) (j - 1) a b (by omega) ha hb
theorem rise_set {vs : List Vr} (hs : Rise vs) (p : Nat) (x y : Vr) (hp : vs[p]? = some x) (he : y.i = x.i) : Rise (vs.set p y) := by
  have hat : ∀ (k : Nat) (z : Vr), (vs.set p y)[k]? = some z → ∃ z', vs[k]? = some z' ∧ z'.i = z.i := fun k z hz => by
    rw [List.getElem?_set] at hz
    split at hz
    · rename_i e
      subst e
      split at hz
      · exact ⟨x, hp, by rw [← Option.some.inj hz, he]⟩
      · cases hz
    · exact ⟨z, hz, rfl⟩
  intro i j a b hij ha hb
  obtain ⟨a', ha', ea⟩ := hat i a ha
  obtain ⟨b', hb', eb⟩ := hat j b hb
  have := hs i j a' b' hij ha' hb'
  omega
theorem getElem?_cutD {α : Type} (l : List α) (p : Nat) (hp : p < l.length) (k : Nat) : (l.take p ++ l.drop (p + 1))[k]? = if k < p then l[k]? else l[k + 1]? := by
  have hl : (l.take p).length = p := by rw [List.length_take]; omega
  by_cases h1 : k < p
  · rw [if_pos h1, List.getElem?_append_left (by omega), List.getElem?_take, if_pos h1]
  · rw [if_neg h1, List.getElem?_append_right (by omega), hl, List.getElem?_drop]
    congr 1
    omega
theorem rise_cut {vs : List Vr} (hs : Rise vs) (p : Nat) (hp : p < vs.length) : Rise (vs.take p ++ vs.drop (p + 1)) := by
  intro i j a b hij ha hb
  rw [getElem?_cutD vs p hp] at ha hb
  split at ha <;> split at hb
  · exact hs i j a b hij ha hb
  · exact hs i (j + 1) a b (by omega) ha hb
  · omega
  · exact hs (i + 1) (j + 1) a b (by omega) ha hb
theorem vrS_ins (vr : List DV) (p : Nat) (x : DV) : VrS (vr.take p ++ [x] ++ vr.drop p) = (VrS vr).take p ++ [x.1] ++ (VrS vr).drop p := by simp [VrS, List.map_take, List.map_drop]
theorem vrS_set (vr : List DV) (p : Nat) (x : DV) : VrS (vr.set p x) = (VrS vr).set p x.1 := by simp [VrS, List.map_set]
theorem vrS_cut (vr : List DV) (p : Nat) : VrS (vr.take p ++ vr.drop (p + 1)) = (VrS vr).take p ++ (VrS vr).drop (p + 1) := by simp [VrS, List.map_take, List.map_drop]
theorem vrS_at {vr : List DV} {p : Nat} {x : DV} (h : vr[p]? = some x) : (VrS vr)[p]? = some x.1 := by unfold VrS; rw [List.getElem?_map, h]; rfl
theorem mem_ins {α : Type} {l : List α} {p : Nat} {x y : α} (h : y ∈ l.take p ++ [x] ++ l.drop p) : y = x ∨ y ∈ l := by
  rw [List.append_assoc, List.mem_append, List.mem_append] at h
  rcases h with h | h | h
  · exact .inr (List.mem_of_mem_take h)
  · exact .inl (List.mem_singleton.1 h)
  · exact .inr (List.mem_of_mem_drop h)
theorem mem_cutD {α : Type} {l : List α} {p : Nat} {y : α} (h : y ∈ l.take p ++ l.drop (p + 1)) : y ∈ l := by
  rcases List.mem_append.1 h with h | h
  · exact List.mem_of_mem_take h
  · exact List.mem_of_mem_drop h
theorem len_ins {α : Type} (l : List α) (p : Nat) (hp : p ≤ l.length) (x : α) : (l.take p ++ [x] ++ l.drop p).length = l.length + 1 := by
  simp only [List.length_append, List.length_take, List.length_drop, List.length_cons, List.length_nil]; omega
theorem len_cutD {α : Type} (l : List α) (p : Nat) (hp : p < l.length) : (l.take p ++ l.drop (p + 1)).length = l.length - 1 := by
  simp only [List.length_append, List.length_take, List.length_drop]; omega

/-- A version put in. -/
theorem StoD.put_in {K : Nat} {X : Nat → Prop} {w : World} {D most n : Nat} {va : Option Addr} {vc : Nat} {vr : List DV} (h : StoD K X w D most n va vc vr) (hm : n < most) {p : Nat} (hp : p ≤ n) {x : Vr} {r : List Vc} (hr : RowOk r)
    (h1 : ∀ k y, k < p → (VrS vr)[k]? = some y → y.i < x.i) (h2 : ∀ k y, p ≤ k → (VrS vr)[k]? = some y → x.i < y.i) {w1 w' : World} {ao : Option Addr} {cap : Nat} {l' : List (Vc × Value)}
    (hd' : w'.heap[D]? = some (.cells #[.int .i64 (most : Int), .slice ao (n + 1) cap] 121 (0, 0))) (hown' : w'.ownsRow K 84 6 (.slice ao (n + 1) cap) (n + 1) (((VrS vr).take p ++ [x] ++ (VrS vr).drop p).map Vr.cells).flatten)
    (hl' : l'.map Prod.fst = r) (hra : RdRA w.heap.size w1 (.slice x.ra x.rn x.rc) l') (hab : Above w.heap.size w1 w') (hs1 : w.heap.size ≤ w1.heap.size) (hs2 : w1.heap.size ≤ w'.heap.size)
    (hng : ∀ g, (Value.slice ao (n + 1) cap).ownBlock = some g → (Value.slice va n vc).ownBlock = some g ∨ w1.heap.size ≤ g) (hb : Below K w w') (hfr : ∀ b, b < w.heap.size → b ≠ D → (Value.slice va n vc).ownBlock ≠ some b → w'.heap[b]? = w.heap[b]?) :
    StoD K (fun b => X b ∨ (Value.slice ao (n + 1) cap).ownBlock = some b) w' D most (n + 1) ao cap (vr.take p ++ [(x, r)] ++ vr.drop p) ∧ (∀ g, (Value.slice ao (n + 1) cap).ownBlock = some g → (Value.slice va n vc).ownBlock = some g ∨ w.heap.size ≤ g) ∧ Agree (YD D (.slice va n vc)) w w' := by
  have hA : Agree (YD D (.slice va n vc)) w w' := ⟨hb.os, hb.tape, hb.output, Nat.le_trans hs1 hs2, fun i hi hx => hfr i hi (fun e => hx (.inl e)) (fun e => hx (.inr e))⟩
  have hng2 : ∀ g, (Value.slice ao (n + 1) cap).ownBlock = some g → (Value.slice va n vc).ownBlock = some g ∨ w.heap.size ≤ g := fun g hg => (hng g hg).imp_right fun h => Nat.le_trans hs1 h
  refine ⟨?_, hng2, hA⟩
  exact {
    len := by rw [len_ins _ _ (by rw [h.len]; exact hp), h.len]
    few := hm
    top := h.top
    rise := by rw [vrS_ins]; exact rise_ins h.rise p (by rw [vrS_len, h.len]; exact hp) x h1 h2
    hd := hd'
    own := by rw [vrS_ins]; exact hown'
    ne := fun e => by
      rcases hng2 D e with h3 | h3
      · exact h.ne h3
      · have := h.ld; omega
    kd := h.kd
    xd := .inl h.xd
    xg := fun g hg => .inr hg
    xl := fun b hb => by
      rcases hb with hb | hb
      · have := h.xl b hb; omega
      · exact own_lt2 hown' b hb
    rows := fun y hy => by
      rcases mem_ins hy with e | hy
      · subst e
        intro w2 ha2
        have hab2 : Above w.heap.size w1 w2 := fun b hb1 hb2 => by
          refine (ha2.block b (by omega) (fun e => ?_)).trans (hab b hb1 hb2)
          rcases e with e | e
          · have := h.xl b e; omega
          · rcases hng b e with e2 | e2
            · have := own_lt2 h.own b e2; omega
            · omega
        exact ⟨l', hl', (hra.above hab2 (Nat.le_refl _)).rd⟩
      · refine (h.rows y hy).to hA (fun i _ hi => ?_) (fun i hi hi2 => ?_)
        · rcases hi with hi | hi
          · rw [hi]; exact h.xd
          · exact h.xg i hi
        · rcases hi2 with hi2 | hi2
          · exact hi2
          · rcases hng2 i hi2 with e | e
            · exact h.xg i e
            · omega
    ok := fun y hy => by
      rcases mem_ins hy with e | hy
      · subst e; exact hr
      · exact h.ok y hy }

/-- A store whose versions turn in place. -/
theorem StoD.turn {K : Nat} {X : Nat → Prop} {w w' : World} {D most n m : Nat} {va : Option Addr} {vc : Nat} {vr vr' : List DV} (h : StoD K X w D most n va vc vr) (hm : vr'.length = m) (hmn : m ≤ n) (hri : Rise (VrS vr'))
    (hd' : w'.heap[D]? = some (.cells #[.int .i64 (most : Int), .slice va m vc] 121 (0, 0))) (hown' : w'.ownsRow K 84 6 (.slice va m vc) m ((VrS vr').map Vr.cells).flatten) (hva : (Value.slice va m vc).ownBlock = (Value.slice va n vc).ownBlock)
    (hs : w.heap.size ≤ w'.heap.size) (hb : Below K w w') (hfr : ∀ b, b < w.heap.size → b ≠ D → (Value.slice va n vc).ownBlock ≠ some b → w'.heap[b]? = w.heap[b]?)
    (hrow : Agree (YD D (.slice va n vc)) w w' → ∀ x ∈ vr', RowOk x.2 ∧ Free X w' fun w => RdRow w (.slice x.1.ra x.1.rn x.1.rc) x.2) :
    StoD K X w' D most m va vc vr' ∧ Agree (YD D (.slice va n vc)) w w' := by
  have hA : Agree (YD D (.slice va n vc)) w w' := ⟨hb.os, hb.tape, hb.output, hs, fun i hi hx => hfr i hi (fun e => hx (.inl e)) (fun e => hx (.inr e))⟩
  refine ⟨?_, hA⟩
  exact {
    len := hm
    few := Nat.le_trans hmn h.few
    top := h.top
    rise := hri
    hd := hd'
    own := hown'
    ne := by rw [hva]; exact h.ne
    kd := h.kd
    xd := h.xd
    xg := fun g hg => h.xg g (hva ▸ hg)
    xl := fun b hb => Nat.lt_of_lt_of_le (h.xl b hb) hs
    rows := fun x hx => (hrow hA x hx).2
    ok := fun x hx => (hrow hA x hx).1 }
theorem StoD.row_to {K : Nat} {X : Nat → Prop} {w w' : World} {D most n : Nat} {va : Option Addr} {vc : Nat} {vr : List DV} (h : StoD K X w D most n va vc vr) (hA : Agree (YD D (.slice va n vc)) w w') {x : DV} (hx : x ∈ vr) : Free X w' fun w => RdRow w (.slice x.1.ra x.1.rn x.1.rc) x.2 :=
  (h.rows x hx).to hA (fun i _ hi => by
    rcases hi with hi | hi
    · rw [hi]; exact h.xd
    · exact h.xg i hi) (fun i _ hi => hi)

/-! ### the map -/
def heldR : Value → Option (DataW Value × List MemPlace) := fun v => some (.held v, [])
def aggR (x : Vr) (s : Value) : Value := .agg #[.int .i64 x.i, s, .int .i64 x.s1, .int .i64 x.s2, .int .i64 x.s3, .int .i64 x.s4]
def hasV (vr : List DV) (t : Int) : Bool := vr.any fun x : DV => x.1.i == t
theorem hasV_true {vr : List DV} {t : Int} (h : hasV vr t = true) : ∃ (p : Nat) (x : DV), vr[p]? = some x ∧ x.1.i = t := by
  obtain ⟨x, hx, he⟩ := List.any_eq_true.1 h
  obtain ⟨p, hp⟩ := List.getElem?_of_mem hx
  exact ⟨p, x, hp, by simpa using he⟩
theorem hasV_false {vr : List DV} {t : Int} (h : hasV vr t = false) : ∀ x ∈ vr, x.1.i ≠ t := fun x hx e => by
  have := List.any_eq_false.1 h x hx
  simp [e] at this
theorem hasV_of {vr : List DV} {x : DV} (hx : x ∈ vr) : hasV vr x.1.i = true := List.any_eq_true.2 ⟨x, hx, by simp⟩
structure MapD (X : Nat → Prop) (w : World) (M n : Nat) (D : DataW Value) (vr : List DV) : Prop where
  own : w.ownsMap Try.prog 3 heldR M n D
  xm : X M
  size : Maps.size D = vr.length
  has : ∀ t : Int, Maps.has D (.int .i64 t) = hasV vr t
  el : ∀ x ∈ vr, ∃ s : Value, (∀ z, D.atKey (.int .i64 x.1.i) z = .held (aggR x.1 s)) ∧ Free X w fun w => RdRow w s x.2
theorem MapD.agree {X Y Z : Nat → Prop} {w w' : World} {M n : Nat} {D : DataW Value} {vr : List DV} (h : MapD X w M n D vr) (ha : Agree Z w w') (hz : ∀ i, i < w.heap.size → Z i → X i) (hzm : ¬ Z M) (hy : ∀ i, i < w.heap.size → Y i → X i) (hym : Y M) : MapD Y w' M n D vr where
  own := h.own.kept (row := none) ⟨rfl, rfl, rfl, Nat.le_refl _, fun _ _ _ => rfl⟩ (by simp) |> fun h0 => by
    obtain ⟨es, clock, hb, r⟩ := h0
    exact ⟨es, clock, (ha.block M (Array.getElem?_eq_some_iff.1 hb).1 hzm).trans hb, r⟩
  xm := hym
  size := h.size
  has := h.has
  el := fun x hx => by
    obtain ⟨s, h1, h2⟩ := h.el x hx
    exact ⟨s, h1, h2.to ha hz hy⟩
theorem MapD.lt {X : Nat → Prop} {w : World} {M n : Nat} {D : DataW Value} {vr : List DV} (h : MapD X w M n D vr) : M < w.heap.size := h.own.lt
theorem MapD.kept {X : Nat → Prop} {w w' : World} {M n : Nat} {D : DataW Value} {vr : List DV} (h : MapD X w M n D vr) (hb : Below w.heap.size w w') : MapD X w' M n D vr :=
  h.agree (agree_below hb hb.size) (fun i hi hx => by omega) (by have := h.lt; omega) (fun i _ hi => hi) h.xm
theorem lawI : Maps.Keyed Try.prog 3 := Maps.int_keyed Try.underlying3
theorem lit_ne {a b : Int} (h : a ≠ b) : (Lit.int .i64 a) ≠ .int .i64 b := fun e => h (by cases e; rfl)
/-- One's own beside the store: what stands at an ID. -/
theorem MapD.at_no {X : Nat → Prop} {w : World} {M n : Nat} {D : DataW Value} {vr : List DV} (h : MapD X w M n D vr) {t : Int} (ht : hasV vr t = false) (z : DataW Value) : D.atKey (.int .i64 t) z = z :=
  Maps.atKey_of_not_has (by rw [h.has]; exact ht) z
theorem MapD.puts {X : Nat → Prop} {w w' : World} {M n m : Nat} {D : DataW Value} {vr vr' : List DV} {x : DV} {s : Value} (h : MapD X w M n D vr) (hown : w'.ownsMap Try.prog 3 heldR M m (D.put (.int .i64 x.1.i) (.held (aggR x.1 s)))) (hg : w.grownBy w' (some M))
    (hlen : vr'.length = if hasV vr x.1.i then vr.length else vr.length + 1) (hhas : ∀ t, hasV vr' t = (x.1.i == t || hasV vr t)) (hmem : ∀ y ∈ vr', y = x ∨ (y ∈ vr ∧ y.1.i ≠ x.1.i)) (hfr : Free X w' fun w => RdRow w s x.2) : MapD X w' M m (D.put (.int .i64 x.1.i) (.held (aggR x.1 s))) vr' where
  own := hown
  xm := h.xm
  size := by rw [Maps.size_put (h.own.tidy lawI), h.size, h.has, hlen]
  has := fun t => by
    rw [hhas]
    by_cases e : t = x.1.i
    · subst e
      rw [Maps.has_put_same h.own.isMap (show WideAt.IsKeyLit (.int .i64 x.1.i) from trivial)]
      simp
    · rw [Maps.has_put_other (lit_ne e), h.has, show (x.1.i == t) = false by rw [beq_eq_false_iff_ne]; exact Ne.symm e, Bool.false_or]
  el := fun y hy => by
    rcases hmem y hy with e | ⟨h1, h2⟩
    · subst e
      exact ⟨s, fun z => Maps.atKey_put_same h.own.isMap (show WideAt.IsKeyLit (.int .i64 y.1.i) from trivial) _ z, hfr⟩
    · obtain ⟨s', h3, h4⟩ := h.el y h1
      exact ⟨s', fun z => by rw [Maps.atKey_put_other (lit_ne h2)]; exact h3 z, h4.to (agree_grown hg) (fun i _ hi => by cases hi; exact h.xm) (fun i _ hi => hi)⟩
theorem MapD.dels {X : Nat → Prop} {w w' : World} {M n : Nat} {D : DataW Value} {vr vr' : List DV} {t : Int} (h : MapD X w M n D vr) (hown : w'.ownsMap Try.prog 3 heldR M n (D.del (.int .i64 t))) (hg : w.grownBy w' (some M))
    (hlen : vr'.length + (if hasV vr t then 1 else 0) = vr.length) (hhas : ∀ k, hasV vr' k = (!(k == t) && hasV vr k)) (hmem : ∀ y ∈ vr', y ∈ vr ∧ y.1.i ≠ t) : MapD X w' M n (D.del (.int .i64 t)) vr' where
  own := hown
  xm := h.xm
  size := by
    have h1 := Maps.size_del (k := .int .i64 t) (h.own.tidy lawI)
    rw [h.has, h.size] at h1
    omega
  has := fun k => by
    rw [hhas]
    by_cases e : k = t
    · subst e
      rw [Maps.has_del_same]
      simp
    · rw [Maps.has_del_other (lit_ne e), h.has, show (k == t) = false by rw [beq_eq_false_iff_ne]; exact e]
      rfl
  el := fun y hy => by
    obtain ⟨h1, h2⟩ := hmem y hy
    obtain ⟨s', h3, h4⟩ := h.el y h1
    exact ⟨s', fun z => by rw [Maps.atKey_del_other (lit_ne h2)]; exact h3 z, h4.to (agree_grown hg) (fun i _ hi => by cases hi; exact h.xm) (fun i _ hi => hi)⟩
/-- The lists: a version put in, turned, taken out. -/
theorem hasV_ins (vr : List DV) (p : Nat) (x : DV) (t : Int) : hasV (vr.take p ++ [x] ++ vr.drop p) t = (x.1.i == t || hasV vr t) := by
  unfold hasV
  rw [List.any_append, List.any_append, List.any_cons, List.any_nil, Bool.or_false]
  conv => rhs; rw [← List.take_append_drop p vr, List.any_append]
  cases (vr.take p).any (fun x : DV => x.1.i == t) <;> cases (vr.drop p).any (fun x : DV => x.1.i == t) <;> cases (x.1.i == t) <;> rfl
theorem hasV_set (vr : List DV) (p : Nat) (x y : DV) (hp : vr[p]? = some x) (he : y.1.i = x.1.i) (t : Int) : hasV (vr.set p y) t = hasV vr t := by
  have hpl := (List.getElem?_eq_some_iff.1 hp).1
  rw [Bool.eq_iff_iff]
  unfold hasV
  rw [List.any_eq_true, List.any_eq_true]
  constructor
  · rintro ⟨z, hz, hzt⟩
    rcases List.mem_or_eq_of_mem_set hz with h | h
    · exact ⟨z, h, hzt⟩
    · exact ⟨x, List.mem_of_getElem? hp, by rw [← he, ← h]; exact hzt⟩
  · rintro ⟨z, hz, hzt⟩
    obtain ⟨k, hk⟩ := List.getElem?_of_mem hz
    by_cases e : p = k
    · subst e
      rw [hp] at hk
      refine ⟨y, List.mem_of_getElem? (List.getElem?_set_self hpl), ?_⟩
      rw [he, Option.some.inj hk]
      exact hzt
    · exact ⟨z, List.mem_of_getElem? (by rw [List.getElem?_set_ne e]; exact hk), hzt⟩
theorem mem_setD {vr : List DV} (hs : Rise (VrS vr)) {p : Nat} {x y z : DV} (hp : vr[p]? = some x) (he : y.1.i = x.1.i) (hz : z ∈ vr.set p y) : z = y ∨ (z ∈ vr ∧ z.1.i ≠ y.1.i) := by
  obtain ⟨k, hk⟩ := List.getElem?_of_mem hz
  rw [List.getElem?_set] at hk
  split at hk
  · split at hk
    · exact .inl (Option.some.inj hk).symm
    · cases hk
  · rename_i e
    refine .inr ⟨List.mem_of_getElem? hk, fun e2 => ?_⟩
    rw [he] at e2
    rcases Nat.lt_or_gt_of_ne e with h | h
    · have := hs p k _ _ h (vrS_at hp) (vrS_at hk); omega
    · have := hs k p _ _ h (vrS_at hk) (vrS_at hp); omega
theorem cut_ne {vr : List DV} (hs : Rise (VrS vr)) {p : Nat} {x z : DV} (hp : vr[p]? = some x) (hz : z ∈ vr.take p ++ vr.drop (p + 1)) : z ∈ vr ∧ z.1.i ≠ x.1.i := by
  have hpl := (List.getElem?_eq_some_iff.1 hp).1
  obtain ⟨k, hk⟩ := List.getElem?_of_mem hz
  rw [getElem?_cutD vr p hpl] at hk
  refine ⟨mem_cutD hz, fun e => ?_⟩
  split at hk
  · rename_i h
    have := hs k p _ _ h (vrS_at hk) (vrS_at hp); omega
  · have := hs p (k + 1) _ _ (by omega) (vrS_at hp) (vrS_at hk); omega
theorem hasV_cut {vr : List DV} (hs : Rise (VrS vr)) {p : Nat} {x : DV} (hp : vr[p]? = some x) (k : Int) : hasV (vr.take p ++ vr.drop (p + 1)) k = (!(k == x.1.i) && hasV vr k) := by
  have hpl := (List.getElem?_eq_some_iff.1 hp).1
  rw [Bool.eq_iff_iff]
  unfold hasV
  rw [Bool.and_eq_true, List.any_eq_true, List.any_eq_true]
  constructor
  · rintro ⟨z, hz, hzt⟩
    obtain ⟨h1, h2⟩ := cut_ne hs hp hz
    have hzk : z.1.i = k := by simpa using hzt
    exact ⟨by rw [← hzk]; simp [h2], z, h1, hzt⟩
  · rintro ⟨h1, z, hz, hzt⟩
    obtain ⟨j, hj⟩ := List.getElem?_of_mem hz
    have hzk : z.1.i = k := by simpa using hzt
    refine ⟨z, ?_, hzt⟩
    have hjp : j ≠ p := fun e => by
      subst e
      rw [hp] at hj
      rw [← hzk, Option.some.inj hj] at h1
      simp at h1
    rcases Nat.lt_or_gt_of_ne hjp with h | h
    · exact List.mem_of_getElem? (i := j) (by rw [getElem?_cutD vr p hpl, if_pos h]; exact hj)
    · exact List.mem_of_getElem? (i := j - 1) (by rw [getElem?_cutD vr p hpl, if_neg (by omega), show j - 1 + 1 = j by omega]; exact hj)

end Go.Proofs.Ytnfjdoeemnhkbaa
