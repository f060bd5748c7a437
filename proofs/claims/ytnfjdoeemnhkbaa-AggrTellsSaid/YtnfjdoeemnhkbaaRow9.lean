import Derived.Test.YtnfjdoeemnhkbaaZof2
import Derived.Test.YtnfjdoeemnhkbaaNsamem
import Derived.Deep.RegionLaw
import Derived.Deep.CutBlock
import Derived.Deep.DeepCutAuto
import Derived.Test.YtnfjdoeemnhkbaaNtim
import Derived.Test.YtnfjdoeemnhkbaaLseven
set_option linter.unusedVariables false
set_option linter.unusedSimpArgs false
namespace Go.Proofs.Ytnfjdoeemnhkbaa
open Go.RowKit
theorem zNy {w w' : World} {l : List (Vc × Value)} {v : Value} (h : OInv w l v w') (hne : 0 < l.length) : ∃ g cap, v = .slice (some ⟨g, 0, none⟩) l.length cap := by
 rcases h.own.2 with ⟨_, h0⟩ | ⟨g, cap, cur, hv, _⟩
 ·omega
 ·exact ⟨g, cap, hv⟩
theorem zOy (v : Value) (cols : List Co) (hne : 0 < cols.length) (n : Int) (w : World) (hv : RdC w v cols) (hl : cols.length <= 6) :
  Calls Try.prog 19 #[.agg #[v], .int .i64 n] w fun e w' => ∃ (g cap : Nat) (l : List (Vc × Value)), e = .returned (.slice (some ⟨g, 0, none⟩) cols.length cap) ∧ l.map Prod.fst = rowOf cols n ∧ w'.ownsRow w.heap.size 36 4 (.slice (some ⟨g, 0, none⟩) cols.length cap) cols.length (l.map cellsV).flatten ∧ (∀ t ∈ l, RdB w.heap.size w' t.2 t.1.b ∧ (∀ x ∈ t.1.b, x < 256) ∧ FarV g t) ∧ Below w.heap.size w w' := by
 refine (zPm v cols n w hv hl).mono ?_
 rintro e w' ⟨u, l, rfl, h1, h2, h3, h4⟩
 have hlen : l.length = cols.length := by have := congrArg List.length h1; rw [List.length_map, zEi] at this; exact this
 obtain ⟨g, cap, rfl⟩ := zNy h2 (by omega)
 have ho := h2.own
 rw [hlen] at ho
 refine ⟨g, cap, l, by rw [hlen], h1, ho, fun t ht => ⟨zIb (h2.ok t ht).1 (h4 t ht), (h2.ok t ht).2, h2.far t ht g rfl⟩, h3⟩
def rows9 (cols : List Co) (l : List Int) : List (List Vc) := (l.take 40).mapIdx fun i n => (rowOf cols n).set 0 ⟨false, 1, (i : Int) * 3 + n % 2, []⟩
def OwnR (B : Nat) (w : World) (v : Value) (L : List (List (Vc × Value))) : Prop :=
 ∃ sls, w.ownsRow B 33 1 v L.length sls ∧ sls.length = L.length ∧ ∀ (i : Nat) (s : Value) (l : List (Vc × Value)), sls[i]? = some s -> L[i]? = some l -> Free (fun b => v.ownBlock = some b) w (fun w' => RdP w' s l)
theorem OwnR.rd {B : Nat} {w : World} {v : Value} {L : List (List (Vc × Value))} (h : OwnR B w v L) : RdRs w v L := by
 obtain ⟨sls, h1, h2, h3⟩ := h
 exact ⟨sls, Rd.of_owns h1, h2, fun i s l hs hl => (h3 i s l hs hl).now⟩
end Go.Proofs.Ytnfjdoeemnhkbaa
