/-
  WALKS: outcomes, of the model.
-/
import Derived.Test.YtggekdohcancbaaK1
import Derived.Test.YtggekdohcancbaaK8
import Derived.Test.YtggekdohcancbaaMath61
namespace Go.Proofs.Ytggekdohcancbaa
open Go.RowKit
theorem validFailsS_any (A : Option Addr) (c : Nat) (g : List Bs.T) (A1 : Option Addr) (c1 : Nat) (F : List Int) (lo hi l1 h1 : Nat) (w : World) (h : RG w lo hi A g) (hh : hi ≤ w.heap.size) (hF : RI w l1 h1 A1 F) (hh1 : h1 ≤ w.heap.size) (hl : g.length ≤ 9223372036854775807) (hFl : F.length ≤ 9223372036854775807) :
    Calls Try.prog 37 #[.slice A g.length c, .slice A1 F.length c1] w fun e w' => e = .returned (.bool (Bs.valid g && Bs.inG g F)) ∧ Below w.heap.size w w' := by
  have q1 := validGraphS_any A c g lo hi w h hh hl
  have q2 := fun W (hb : Below w.heap.size w W) => ascends_any A1 c1 F l1 h1 W (hF.below hb hh1) hFl
  have q3 := fun W (hb : Below w.heap.size w W) => allIn_any A1 c1 F 0 ((g.length : Int) - 1) l1 h1 W (hF.below hb hh1) hFl
  have HE := Lib.hid (show Bs.inG g F = (Bs.asc F && Bs.allInB F 0 ((g.length : Int) - 1)) from rfl)
  clear h hF
  generalize Bs.valid g = v1 at *
  generalize Bs.asc F = v2 at *
  generalize Bs.allInB F 0 ((g.length : Int) - 1) = v3 at *
  have C1 := Lib.hid q1
  have C2 := Lib.hid q2
  have C3 := Lib.hid q3
  clear q1 q2 q3
  have hw : IntKind.i64.wrap ((g.length : Int) - 1) = (g.length : Int) - 1 := IntWalk.i64_in _ ⟨by omega, by omega⟩
  cases v1
  · go_enter Try.func37, Try.ntmps37
    go_wp2_with fail
    with_reducible refine (C1.out).mono ?_
    rintro e w1 ⟨rfl, hb⟩
    have HB := Lib.hid hb
    clear hb
    go_wp2
    go_ret
    exact ⟨ret_bool (by rw [HE.out]; rfl), HB.out⟩
  · cases v2
    · go_enter Try.func37, Try.ntmps37
      go_wp2_with fail
      with_reducible refine (C1.out).mono ?_
      rintro e w1 ⟨rfl, hb⟩
      have HB := Lib.hid hb
      clear hb
      go_wp2_with fail
      with_reducible refine (C2.out _ HB.out).mono ?_
      rintro e w2 ⟨rfl, n, rfl⟩
      go_wp2
      go_ret
      exact ⟨ret_bool (by rw [HE.out]; rfl), HB.out.drewN _⟩
    · go_enter Try.func37, Try.ntmps37
      go_wp2_with fail
      with_reducible refine (C1.out).mono ?_
      rintro e w1 ⟨rfl, hb⟩
      have HB := Lib.hid hb
      clear hb
      go_wp2_with fail
      with_reducible refine (C2.out _ HB.out).mono ?_
      rintro e w2 ⟨rfl, n, rfl⟩
      have HBn := Lib.hid (HB.out.drewN n)
      go_wp2_with fail
      with_reducible refine (C3.out _ HBn.out).mono ?_
      rintro e w3 ⟨rfl, rfl⟩
      go_wp2
      go_ret
      exact ⟨ret_bool (by rw [HE.out]; simp), HBn.out⟩
end Go.Proofs.Ytggekdohcancbaa
