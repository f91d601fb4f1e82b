/-
  WALKS: the draws: a spoilt list.
-/
import Derived.Test.YtoggbndpjcfmiaaD2
namespace Go.Proofs.Ytoggbndpjcfmiaa
open Go.RowKit
theorem one_new (cs : Array Value) (n lo rb P : Nat) (w : World) (hs : St lo rb P w) (hP : P ≤ 1000000) (h : ∀ v ∈ cs.toList, IsI v) (hn : n = cs.size) (h0 : 0 < n) (h1 : n ≤ 1000) {g : Nat} (hg : w.heap.size = g) :
    Calls Try.prog 36 #[.pointer (some ⟨rb, 0, none⟩), .slice (some ⟨g, 0, none⟩) n n] (w.alloc (.cells cs 3)) (OneR lo rb P w) := by
  subst hg
  obtain ⟨s1, f1⟩ := hs.allocI cs h
  refine (one_any _ n lo rb P _ s1 hP (SL.fresh hs.le cs (by omega) (by unfold maxLen; omega)) h0 (by omega)).mono ?_
  rintro e w' ⟨h1, h2, h3, h4⟩
  exact ⟨h1, h2, f1.trans h3, (KT.alloc w _).trans h4⟩
/-- a list of at most m elements that is handed back -/
def SpR (lo rb P m : Nat) (w : World) (e : Ending) (w' : World) : Prop := (∃ v n, n ≤ m ∧ e = .returned v ∧ SL w' lo 3 1 v n) ∧ St lo rb P w' ∧ Fwd lo w w' ∧ KT w w'
theorem SL.tail1 {w : World} {lo n c : Nat} {A : Option Addr} (h : SL w lo 3 1 (.slice A n c) n) (hc : c = 1) : SL w lo 3 1 (.slice A (n - 1) 0) (n - 1) := by
  obtain ⟨A', c', e, h1, h2, h3⟩ := h
  cases e
  refine ⟨A, 0, rfl, by omega, Nat.zero_le _, ?_⟩
  rcases h3 with ⟨rfl, h3⟩ | ⟨b, o, rfl, hr⟩
  · exact .inl ⟨rfl, rfl⟩
  · exact .inr ⟨b, o, rfl, hr.less (by omega)⟩
theorem SL.tail {w : World} {lo n c : Nat} {A : Option Addr} (h : SL w lo 3 1 (.slice A n c) n) (hn : ¬ n = 0) : SL w lo 3 1 (.slice (Option.map (fun x => { block := x.block, off := x.off + 1 }) A) (n - 1) (c - 1)) (n - 1) := by
  obtain ⟨A', c', e, h1, h2, h3⟩ := h
  cases e
  refine ⟨_, _, rfl, by omega, by omega, ?_⟩
  rcases h3 with ⟨rfl, h3⟩ | ⟨b, o, rfl, hr⟩
  · omega
  · exact .inr ⟨b, o + 1, by simp, hr.less (by omega)⟩
set_option maxHeartbeats 1600000 in
theorem spoil_any (v : Value) (n lo rb P : Nat) (q : Int) (w : World) (hs : St lo rb P w) (hP : P ≤ 900000) (hv : SL w lo 3 1 v n) (hn : n ≤ 100000000) :
    Calls Try.prog 52 #[.pointer (some ⟨rb, 0, none⟩), v, .int .i64 q] w (SpR lo rb (P + 4) (n + 1) w) := by
  have C1 := Lib.hid (copyInts_any v n lo rb P w hs hv (by omega))
  clear hs hv
  go_enter Try.func52, Try.ntmps52
  go_wp2_with fail
  refine (C1.out).mono ?_
  rintro e w1 ⟨⟨⟨v1, rfl, hv1⟩, hs1, hf1⟩, hk1⟩
  clear C1
  obtain ⟨A, c, rfl, hnc, hcm, hv1⟩ := hv1.form
  have HV := Lib.hid hv1
  have HS := Lib.hid hs1
  have HF := Lib.hid hf1
  have HK := Lib.hid hk1
  have C1 := Lib.hid (pick_any 20 lo rb P w1 hs1 (by omega) (by omega))
  clear hv1 hs1 hf1 hk1
  go_wp2_with fail
  refine (C1.out).mono ?_
  rintro e w2 ⟨⟨k, rfl, hk, _⟩, hs2, hf2, hk2⟩
  have HK := Lib.hid (HK.out.trans hk2)
  clear C1 hk hk2
  have HF := Lib.hid (HF.out.trans hf2)
  have HV := Lib.hid (HV.out.ext tI hf2.2)
  have HS := Lib.hid hs2
  clear hs2 hf2
  by_cases k0 : k = 0
  · subst k0
    obtain ⟨s1, f1⟩ := HS.out.allocI #[.int .i64 q] (by simp [IsI])
    have HH := Lib.hid (And.intro s1 (And.intro f1 (And.intro (HV.out.ext tI f1.2) (SL.fresh (t := 3) (s := 1) HS.out.le #[.int .i64 q] (n := 1) (by simp) (by decide)))))
    clear s1 f1
    go_wp2_with (at_builtin; refine push_ti rfl _ _ rfl HH.out.1 HH.out.2.2.1 HH.out.2.2.2 (by omega) ?_; intro A2 c2 w3 hnc2 hcm2 hv3 hs3 hf3 hk3)
    have HS3 := Lib.hid hs3
    have HV3 := Lib.hid hv3
    have HF3 := Lib.hid hf3
    have HK := Lib.hid (HK.out.trans ((KT.alloc w2 (.cells #[.int .i64 q] 3)).trans (hk3.kt (by decide))))
    clear hs3 hv3 hf3 hk3
    go_wp2
    go_ret
    exact ⟨⟨_, _, Nat.le_refl _, rfl, HV3.out⟩, HS3.out.more (by omega), HF.out.trans (HH.out.2.1.trans HF3.out), HK.out⟩
  · by_cases k1 : k = 1
    · subst k1
      by_cases hn0 : n = 0
      · have HV := Lib.hid (show SL w2 lo 3 1 (.slice A 0 c) 0 from hn0 ▸ HV.out)
        go_wp2
        go_ret
        exact ⟨⟨_, _, Nat.zero_le _, rfl, HV.out⟩, HS.out.more (by omega), HF.out, HK.out⟩
      · have HT := Lib.hid (HV.out.tail hn0)
        have HT1 := fun h => Lib.hid (HV.out.tail1 h)
        by_cases hc1 : c = 1
        · have HT1 := HT1 hc1
          clear HT
          go_wp2
          go_ret
          exact ⟨⟨_, n - 1, by omega, rfl, HT1.out⟩, HS.out.more (by omega), HF.out, HK.out⟩
        · clear HT1
          go_wp2
          go_ret
          exact ⟨⟨_, n - 1, by omega, rfl, HT.out⟩, HS.out.more (by omega), HF.out, HK.out⟩
    · by_cases k2 : k = 2
      · subst k2
        by_cases hn0 : n = 0
        · have HV := Lib.hid (show SL w2 lo 3 1 (.slice A 0 c) 0 from hn0 ▸ HV.out)
          go_wp2
          go_ret
          exact ⟨⟨_, _, Nat.zero_le _, rfl, HV.out⟩, HS.out.more (by omega), HF.out, HK.out⟩
        · have C1 := Lib.hid (pick_any n lo rb (P + 1) w2 HS.out (by omega) (by omega))
          go_wp2_with fail
          refine (C1.out).mono ?_
          rintro e w3 ⟨⟨k, rfl, hk, _⟩, hs3, hf3, hk3⟩
          have HK := Lib.hid (HK.out.trans hk3)
          clear hk3
          have hk := hk (by omega)
          have HF := Lib.hid (HF.out.trans hf3)
          have HV := Lib.hid (HV.out.ext tI hf3.2)
          have HS := Lib.hid hs3
          clear hs3 hf3 C1
          have C1 := Lib.hid (one_new #[.int .i64 (-1), .int .i64 q, .int .i64 0, .int .i64 1] 4 lo rb (P + 2) w3 HS.out (by omega) (by simp [IsI]) rfl (by omega) (by omega) rfl)
          go_wp2_with fail
          refine (C1.out).mono ?_
          rintro e w4 ⟨⟨x, rfl⟩, hs4, hf4, hk4⟩
          have hv4 := HV.out.ext tI hf4.2
          obtain ⟨b, o, y, rfl, hc, hlb, hfr, hrw⟩ := hv4.cell hs4 hk
          obtain ⟨s5, f5⟩ := hs4.set_ (u := .int .i64 x) (i := o + k) hrw tI (TY.int _ _ _ _ ⟨x, rfl⟩)
          have HK := Lib.hid (HK.out.trans (hk4.trans (by obtain ⟨_, cs, hcs, _⟩ := hrw; exact (Upd.set_ hcs (o + k) (.int .i64 x)).keeps.kt (by decide))))
          clear hk4
          have HF := Lib.hid (HF.out.trans (hf4.trans f5))
          have HV := Lib.hid (hv4.ext tI f5.2)
          have HS := Lib.hid s5
          clear hs4 hf4 hv4 C1 s5 f5 hrw
          go_wp2
          go_ret
          exact ⟨⟨_, n, by omega, rfl, HV.out⟩, HS.out.more (by omega), HF.out, HK.out⟩
      · go_wp2
        go_ret
        exact ⟨⟨_, _, by omega, rfl, HV.out⟩, HS.out.more (by omega), HF.out, HK.out⟩
end Go.Proofs.Ytoggbndpjcfmiaa
