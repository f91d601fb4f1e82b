/-
  WALKS: the order in which ready tasks are taken, of the model: the whole function.
-/
import Derived.Test.YtmdmemompjpmkaaR9
namespace Go.Proofs.Ytmdmemompjpmkaa
open Go.RowKit
set_option maxHeartbeats 800000 in
theorem ReadyOrderS_any (A : Option Addr) (c : Nat) (g : List Bs.T) (A' : Option Addr) (c' : Nat) (d : List Int) (lo hi lo' hi' : Nat) (w : World) (h : RG w lo hi A g) (hh : hi ≤ w.heap.size) (h' : RI w lo' hi' A' d) (hh' : hi' ≤ w.heap.size) (hl : g.length ≤ 9223372036854775807) (hd : d.length ≤ 9223372036854775807) :
    Calls Try.prog 31 #[.slice A g.length c, .slice A' d.length c'] w (RetI w (Bs.ordL g d)) := by
  have c1 := validDoneS_any A c g A' c' d lo hi lo' hi' w h hh h' hh' hl hd
  cases hv : Bs.vdone g d
  · rw [hv] at c1
    have C1 := Lib.hid c1
    have HV := Lib.hid (Bs.ordL_no hv)
    clear c1 hv h h'
    go_enter Try.func31, Try.ntmps31
    go_wp2_with fail
    with_reducible refine (C1.out).mono ?_
    rintro e w1 ⟨rfl, hb⟩
    have HB := Lib.hid hb
    clear hb
    go_wp2
    go_ret
    exact RetI.nil HB.out HV.out
  · have hg := Bs.vdone_valid hv
    have hF := valid_fine hg
    have h8 := Bs.fine_len hF
    have c2 := fun W (hb : Below w.heap.size w W) => ready_any A c g A' c' d lo hi lo' hi' W (h.below hb hh) (Nat.le_trans hh hb.size) (h'.below hb hh') (Nat.le_trans hh' hb.size) (by omega) hd
    have C3 := Lib.hid (fun W A2 c2 (hb : Below w.heap.size w W) (hr : RI W w.heap.size W.heap.size A2 (Bs.readyC g d)) => byTail_any A c g A2 c2 (Bs.readyC g d) lo hi w.heap.size W.heap.size W (h.below hb hh) (Nat.le_trans hh hb.size) hr (Nat.le_refl _) hg (fun x hx => Bs.ready_in hx) (Bs.pick_nodup _ _))
    have HE := Lib.hid (fun o hs hm => Bs.ord_eq (o := o) (d := d) hF hs hm)
    have HV := Lib.hid (Bs.ordL_yes hv)
    rw [hv] at c1
    have C1 := Lib.hid c1
    have C2 := Lib.hid c2
    clear c1 c2 hv h h' hF hg
    go_enter Try.func31, Try.ntmps31
    go_wp2_with fail
    with_reducible refine (C1.out).mono ?_
    rintro e w1 ⟨rfl, hb⟩
    have HB := Lib.hid hb
    have s1 := hb.size
    clear hb
    go_wp2_with fail
    with_reducible refine (C2.out _ HB.out).mono ?_
    rintro e w2 ⟨⟨A2, c2, rfl, ho⟩, hb2⟩
    have hr2 := (ho.base s1).ri
    have HB2 := Lib.hid (HB.out.trans (hb2.mono s1))
    have C4 := Lib.hid (C3.out w2 A2 c2 HB2.out hr2)
    have s2 := HB2.out.size
    clear ho hb2 hr2 C1 C2 C3
    go_wp2_with fail
    with_reducible refine (C4.out).mono ?_
    rintro e w3 ⟨⟨A3, c3, o, rfl, ho3, hs3, hm3⟩, hb3⟩
    have he := HE.out o hs3 hm3
    have HO3 := Lib.hid (ho3.base s2)
    have HB3 := Lib.hid (HB2.out.trans (hb3.mono s2))
    have HEE := Lib.hid he
    clear ho3 hb3 hs3 hm3 he C4
    go_wp2
    go_ret
    rw [HV.out, ← HEE.out]
    exact ⟨⟨A3, c3, rfl, HO3.out⟩, HB3.out⟩
end Go.Proofs.Ytmdmemompjpmkaa
