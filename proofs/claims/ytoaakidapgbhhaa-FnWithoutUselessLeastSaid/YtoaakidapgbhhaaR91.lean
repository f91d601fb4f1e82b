/-
  WALKS: stages of the model: the stage of each task.
-/
import Derived.Test.YtoaakidapgbhhaaR90
namespace Go.Proofs.Ytoaakidapgbhhaa
open Go.RowKit
theorem StageOfS_any (A : Option Addr) (c : Nat) (g : List Bs.T) (lo hi : Nat) (w : World) (hG : RG w lo hi A g) (hh : hi ≤ w.heap.size) (hl : g.length ≤ 9223372036854775807) :
    Calls Try.prog 17 #[.slice A g.length c] w (RetI w (if Bs.valid g then Bs.levC g else [])) := by
  have c1 := validGraphS_any A c g lo hi w hG hh hl
  cases hf : Bs.valid g
  · rw [hf] at c1
    have C1 := Lib.hid c1
    clear c1 hf
    go_enter Try.func17, Try.ntmps17
    go_wp2_with fail
    with_reducible refine (C1.out).mono ?_
    rintro e w1 ⟨rfl, hb⟩
    have HB := Lib.hid hb
    clear hb
    go_wp2
    go_ret
    exact RetI.nil HB.out rfl
  rw [hf] at c1
  have C1 := Lib.hid c1
  have C2 := Lib.hid (fun W (hb : Below w.heap.size w W) => levelsS_any A c g lo hi W (hG.below hb hh) (Nat.le_trans hh hb.size) (valid_fine hf))
  clear c1 hf
  rw [if_pos rfl]
  go_enter Try.func17, Try.ntmps17
  go_wp2_with fail
  with_reducible refine (C1.out).mono ?_
  rintro e w1 ⟨rfl, hb⟩
  have HB := Lib.hid hb
  have s1 := hb.size
  clear hb C1
  have C3 := Lib.hid (C2.out w1 HB.out)
  clear C2
  go_wp2_with fail
  with_reducible refine (C3.out).mono ?_
  rintro e w2 ⟨⟨A2, c2, rfl, ho2⟩, hb2⟩
  have HO := Lib.hid (ho2.base s1)
  have HB2 := Lib.hid (HB.out.trans (hb2.mono s1))
  clear ho2 hb2
  go_wp2
  go_ret
  exact ⟨⟨A2, c2, rfl, HO.out⟩, HB2.out⟩
end Go.Proofs.Ytoaakidapgbhhaa
