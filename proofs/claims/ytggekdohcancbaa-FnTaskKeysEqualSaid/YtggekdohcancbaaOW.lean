/-
  WALKS: rows of tasks of which only the needs are kept. No condition.
-/
import Derived.Test.YtggekdohcancbaaK28
import Derived.Test.YtggekdohcancbaaMath71
namespace Go.Proofs.Ytggekdohcancbaa
open Go.RowKit
theorem OU.alloc {w : World} {B : Nat} {A : Option Addr} {c : Nat} {g : List RW} (h : OU w B A c g) (o : Obj) : OU (w.alloc o) B A c g := World.ownsRow.alloc h o
theorem new_cellsU (w : World) (r : RW) : ∀ j u, ([r].flatMap tcU)[j]? = some u → (w.alloc (.cells #[.int .i64 r.t.time, .slice r.N r.t.needs.length r.c, .int .i64 r.t.pool, .int .i64 r.t.units] 35)).cell? ⟨w.heap.size, 0 + j, none⟩ = some u := by
  intro j u hu
  rw [Nat.zero_add, (Blk.new w _ _).cell]
  simpa [tcU] using hu
theorem OU.plainRG {w W : World} {B lo hi : Nat} {A : Option Addr} {c : Nat} {g : List Bs.T} {rs : List RW} (h : OU w B A c rs) (hl : rs.length = g.length)
    (hr : ∀ k (hk : k < rs.length) (hk' : k < g.length), rs[k].t = Bs.plainT g[k] ∧ g[k].needs.length ≤ rs[k].c ∧ rs[k].c ≤ 9223372036854775807 ∧ RI W lo hi rs[k].N g[k].needs) (hb : Below hi W w) (hlo : lo ≤ B) (hhi : hi ≤ w.heap.size) :
    RG w lo w.heap.size A (g.map Bs.plainT) := by
  intro k hk
  rw [List.length_map] at hk
  obtain ⟨b, rfl, hbB, hlt, hc, _⟩ := h.blk (by omega)
  have hk2 : k < rs.length := by omega
  have hc' : ∀ j u, j < 4 → (tcU rs[k])[j]? = some u → w.cell? ⟨b, k * 4 + j, none⟩ = some u := fun j u hj hu => hc _ _ ((tcU_at _ k hk2 j hj).trans hu)
  obtain ⟨e1, e2, e3, e4⟩ := hr k hk2 hk
  have e5 : (g.map Bs.plainT)[k]'(by rw [List.length_map]; exact hk) = rs[k].t := by rw [List.getElem_map, e1]
  have e6 : rs[k].t.needs = g[k].needs := by rw [e1]; rfl
  rw [e5]
  refine ⟨b, 0, rs[k].N, rs[k].c, rfl, by omega, hlt, ?_, ?_, ?_, ?_, ?_, e3, ?_⟩
  · rw [Nat.zero_add]; exact hc' 0 _ (by omega) rfl
  · rw [Nat.zero_add]; exact hc' 1 _ (by omega) rfl
  · rw [Nat.zero_add]; exact hc' 2 _ (by omega) rfl
  · rw [Nat.zero_add]; exact hc' 3 _ (by omega) rfl
  · rw [e6]; exact e2
  · rw [e6]; exact (e4.below hb (Nat.le_refl _)).more (Nat.le_refl _) hhi
end Go.Proofs.Ytggekdohcancbaa
