import Derived.Test.YtnfjdoeemnhkbaaRfk
import Derived.Test.YtnfjdoeemnhkbaaAgom
import Derived.Test.YtnfjdoeemnhkbaaNsamem
import Derived.Test.YtnfjdoeemnhkbaaLone
set_option linter.unusedVariables false
set_option linter.unusedSimpArgs false
namespace Go.Proofs.Ytnfjdoeemnhkbaa
open Go.RowKit
open _root_.List renaming length_map -> Qa, mem_map -> Qb, mem_map_of_mem -> Qd
open _root_.Option renaming map_some -> Qc
open _root_.Nat renaming le_refl -> Qe
theorem zO6 : Elm Try.prog 22 3 1 8 := by
 have h : (Try.prog.info? 3).map (fun i => (i.zero, i.size, i.bytes)) = some (some (.int .i64 0), 1, 8) := by kernel_rfl
 cases hq : Try.prog.info? 3 with
 | none => rw [hq] at h; cases h
 | some i =>
  rw [hq] at h
  simp only [Qc, Option.some.injEq, Prod.mk.injEq] at h
  exact ⟨Try.underlying22, ⟨i, _, hq, h.1, h.2.1, h.2.2, rfl⟩, by decide, by decide⟩
theorem zO7 : Elm Try.prog 49 32 2 16 := by
 have h : (Try.prog.info? 32).map (fun i => (i.zero, i.size, i.bytes)) = some (some (.agg #[.int .i64 0, .int .i64 0]), 2, 16) := by kernel_rfl
 cases hq : Try.prog.info? 32 with
 | none => rw [hq] at h; cases h
 | some i =>
  rw [hq] at h
  simp only [Qc, Option.some.injEq, Prod.mk.injEq] at h
  exact ⟨Try.underlying49, ⟨i, _, hq, h.1, h.2.1, h.2.2, rfl⟩, by decide, by decide⟩
theorem zEx : Elm Try.prog 52 46 6 64 := by
 have h : (Try.prog.info? 46).map (fun i => (i.zero, i.size, i.bytes)) = some (some (.agg #[.int .i64 0, .bool false, .bool false, .int .i64 0, .int .i64 0, .slice none 0 0]), 6, 64) := by kernel_rfl
 cases hq : Try.prog.info? 46 with
 | none => rw [hq] at h; cases h
 | some i =>
  rw [hq] at h
  simp only [Qc, Option.some.injEq, Prod.mk.injEq] at h
  exact ⟨Try.underlying52, ⟨i, _, hq, h.1, h.2.1, h.2.2, rfl⟩, by decide, by decide⟩
theorem zN9 {cols : List Co} (hok : ColsOk cols) {l : List Int} {w : World} {v : Value} {E : List El} (he : E.map El.row = l.map (rowOf cols)) (hl : E.length <= 40) (hr : Rd w v (E.map Prod.fst)) (hel : ∀ x ∈ E, RdP w x.1 x.2) : RowsK (cols.map (·.k)) w v E := by
 refine ⟨fun k hk => ?_, by rw [Qa]; exact hok.ne, by rw [Qa]; exact hok.le, fun r hr => ?_, hl, fun x hx t ht => ?_, hr, hel⟩
 ·obtain ⟨c, hc, rfl⟩ := Qb.1 hk
  exact hok.ks c hc
 ·rw [he] at hr
  obtain ⟨n, _, rfl⟩ := Qb.1 hr
  exact ⟨zJ1 cols hok n, zK7 cols hok n⟩
 ·have h1 : x.row ∈ l.map (rowOf cols) := by rw [<- he]; exact Qd hx
  obtain ⟨n, _, hn⟩ := Qb.1 h1
  have h2 : t.1 ∈ rowOf cols n := by rw [hn]; exact Qd ht
  exact zFx n t.1 h2
theorem zFb {R : List (List Vc)} {Z : List El} (h : (Z.map El.row).Perm R) (hr : ∀ r ∈ R, r.length <= 1000000) : ∀ x ∈ Z, x.2.length <= 1000000 := fun x hx => by
 have h2 := hr x.row (h.mem_iff.1 (Qd hx))
 unfold El.row at h2
 rw [Qa] at h2
 exact h2
theorem zOa {cols : List Co} {K n g cap : Nat} {w : World} {rl : List (Vc × Value)} (hn : n = rl.length) (ho : w.ownsRow K 36 4 (.slice (some ⟨g, 0, none⟩) n cap) n (rl.map cellsV).flatten) (hv : ∀ t ∈ rl, RdB K w t.2 t.1.b ∧ (∀ x ∈ t.1.b, x < 256) ∧ FarV g t) : ∀ w', Above K w w' -> RdP w' (.slice (some ⟨g, 0, none⟩) n cap) rl := fun w' ha =>
 ⟨((zGy ho (by rw [Qa]; exact hn) (fun t ht => by obtain ⟨x, _, rfl⟩ := Qb.1 ht; rfl)).above ha (Qe _)).rd, fun t ht => ⟨((hv t ht).1.above ha (Qe _)).rd (Above.refl _ _), (hv t ht).2.1⟩⟩
theorem zEy {K q xcc xc4 : Nat} {xa xa4 : Option Addr} {wd w4 : World} {o : Obj} {xs : List SetP} {v : Vc} {sv : Value} {cs : List Value} (hx : wd.ownsRow K 46 6 (.slice xa q xcc) q cs) (hf : ∀ y ∈ xs, Free (fun b => (Value.slice xa q xcc).ownBlock = some b) wd fun w' => OkV w' (y.v, y.s)) (hv : Free (fun b => (Value.slice xa q xcc).ownBlock = some b) wd fun w' => OkV w' (v, sv)) (hb : Below wd.heap.size wd (wd.drew.alloc o)) (hg : (wd.drew.alloc o).grownBy w4 (Value.slice xa q xcc).ownBlock) (hn : ∀ g, (Value.slice xa4 (q + 1) xc4).ownBlock = some g -> (Value.slice xa q xcc).ownBlock = some g ∨ g = (wd.drew.alloc o).heap.size) :
  (∀ y ∈ xs, Free (fun b => (Value.slice xa4 (q + 1) xc4).ownBlock = some b) w4 fun w' => OkV w' (y.v, y.s)) ∧ Free (fun b => (Value.slice xa4 (q + 1) xc4).ownBlock = some b) w4 fun w' => OkV w' (v, sv) := by
 have hag : Agree (fun b => (Value.slice xa q xcc).ownBlock = some b) wd w4 := ((Agree.refl _ wd).thenBelow hb).thenGrown hg fun i _ h => h
 have hy : ∀ i, i < wd.heap.size -> (Value.slice xa4 (q + 1) xc4).ownBlock = some i -> (Value.slice xa q xcc).ownBlock = some i := fun i hi e => by
  rcases hn i e with h | h
  ·exact h
  ·have := hb.size; omega
 exact ⟨fun y h => (hf y h).to hag (fun _ _ h => h) hy, hv.to hag (fun _ _ h => h) hy⟩
end Go.Proofs.Ytnfjdoeemnhkbaa
