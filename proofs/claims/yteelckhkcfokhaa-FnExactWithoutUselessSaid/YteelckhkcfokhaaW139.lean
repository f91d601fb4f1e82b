/-
  WALKS: the exact laws' marks in tasks that a call laid itself.
-/
import Derived.Test.YteelckhkcfokhaaW138
namespace Go.Proofs.Yteelckhkcfokhaa
open Go.RowKit
theorem TSc.mrow {w : World} {B : Nat} {A : Option Addr} {c : Nat} {rs : List RW} {g : List Bs.T} (hO : OU w B A c rs) (hS : TSc w B w.heap.size rs g) : ∃ b o, ∃ f : Nat → Nat, (0 < g.length → A = some ⟨b, o, none⟩) ∧ (∀ k, k < g.length → f k ≤ f (k + 1)) ∧
    ∀ k (hk : k < g.length), ∃ (N : Option Addr) (c : Nat) (x y z : Int), B ≤ b ∧ b < w.heap.size ∧ w.cell? ⟨b, o + k * 4, none⟩ = some (.int .i64 x) ∧ w.cell? ⟨b, o + k * 4 + 1, none⟩ = some (.slice N g[k].needs.length c) ∧ w.cell? ⟨b, o + k * 4 + 2, none⟩ = some (.int .i64 y) ∧ w.cell? ⟨b, o + k * 4 + 3, none⟩ = some (.int .i64 z) ∧
      (∀ j, w.frozen? ⟨b, j, none⟩ = false) ∧ ∃ l1 h1, MI w l1 h1 N g[k].needs.length ∧ (b < l1 ∨ h1 ≤ b) ∧ f k ≤ l1 ∧ h1 ≤ f (k + 1) ∧ B ≤ l1 ∧ h1 ≤ w.heap.size := by
  have hrl := hS.len
  obtain ⟨e0, f, f0, f1, f2, f3, f4⟩ := hS
  have hml : (g.map Bs.T.needs).length = g.length := List.length_map _
  rw [hml] at f1 f2
  by_cases h0 : 0 < g.length
  · obtain ⟨b, hA, hbB, hlt, hc, hfz⟩ := hO.blk (by omega)
    refine ⟨b, 0, f, fun _ => hA, f2, ?_⟩
    intro k hk
    have hk2 : k < rs.length := by omega
    have hc' : ∀ j u, j < 4 → (tcU rs[k])[j]? = some u → w.cell? ⟨b, k * 4 + j, none⟩ = some u := fun j u hj hu => hc _ _ ((tcU_at _ k hk2 j hj).trans hu)
    have e1 : rs[k].t = g[k] := by
      subst e0
      rw [List.getElem_map]
    obtain ⟨N, cN, n1, n2, n3⟩ := f4 k (by rw [hml]; exact hk)
    rw [List.getElem?_map, List.getElem?_eq_getElem hk2] at n1
    simp only [Option.map_some, Option.some.injEq, List.getElem_map] at n1 n2
    injection n1 with m1 m2 m3
    have hB2 : B ≤ f k := Nat.le_trans f0 (cut_le f2 (Nat.zero_le k) (by omega))
    refine ⟨N, cN, rs[k].t.time, rs[k].t.pool, rs[k].t.units, hbB, hlt, ?_, ?_, ?_, ?_, hfz, ?_⟩
    · rw [Nat.zero_add]; exact hc' 0 _ (by omega) rfl
    · rw [Nat.zero_add, ← m1, ← m3, ← e1]; exact hc' 1 _ (by omega) rfl
    · rw [Nat.zero_add]; exact hc' 2 _ (by omega) rfl
    · rw [Nat.zero_add]; exact hc' 3 _ (by omega) rfl
    · by_cases hz : 0 < g[k].needs.length
      · obtain ⟨bN, hN, b1, b2, b3⟩ := MI.one n2 hz
        have hne : bN ≠ b := by
          intro e
          rcases n2.ne_ou hO with h | h
          · rw [hN] at h; simp [Value.ownBlock] at h
          · apply h; rw [hN, hA, e]; rfl
        have := n3 _ hN
        exact ⟨bN, bN + 1, b3, by omega, b1, this, by omega, by omega⟩
      · have := cut_le f2 (show k + 1 ≤ g.length by omega) (Nat.le_refl _)
        have := f2 k hk
        exact ⟨f k, f k, fun j hj => by omega, by omega, Nat.le_refl _, this, hB2, by omega⟩
  · exact ⟨0, 0, f, fun h => absurd h h0, f2, fun k hk => by omega⟩
theorem Touch.cellTo {lo hi : Nat} {w w' : World} (h : Touch lo hi w w') {p : Addr} (hp : p.block < lo ∨ hi ≤ p.block) : w'.cell? p = w.cell? p := World.cell?_of_block (w := w) (h.far p.block hp)
theorem HeldRow.touch {w w' : World} {b o k c n l1 h1 l2 h2 : Nat} {N : Option Addr} {p : Int} (h : HeldRow w l2 h2 b o k N c n p) (ht : Touch l1 h1 w w') (hb : b < l1 ∨ h1 ≤ b) (hbN : h2 ≤ l1 ∨ h1 ≤ l2) : HeldRow w' l2 h2 b o k N c n p := by
  obtain ⟨a0, a1, a2, a3, a4⟩ := h
  exact ⟨(ht.cellTo (p := ⟨b, o + k * 4, none⟩) hb).trans a0, (ht.cellTo (p := ⟨b, o + k * 4 + 1, none⟩) hb).trans a1, (ht.cellTo (p := ⟨b, o + k * 4 + 2, none⟩) hb).trans a2, (ht.cellTo (p := ⟨b, o + k * 4 + 3, none⟩) hb).trans a3, a4.touch ht hbN⟩
theorem HeldRow.set_ {w : World} {b o k c n l2 h2 m : Nat} {N : Option Addr} {p : Int} (h : HeldRow w l2 h2 b o k N c n p) (hm : ∀ i, i < 4 → m ≠ o + k * 4 + i) (hbN : b < l2 ∨ h2 ≤ b) (u : Value) : HeldRow (w.setCell ⟨b, m, none⟩ u) l2 h2 b o k N c n p := by
  obtain ⟨a0, a1, a2, a3, a4⟩ := h
  have key : ∀ q, m ≠ q → (w.setCell ⟨b, m, none⟩ u).cell? ⟨b, q, none⟩ = w.cell? ⟨b, q, none⟩ := fun q hq => World.cell?_setCell_other _ _ _ _ (fun e => hq (by cases e; rfl))
  exact ⟨(key _ (hm 0 (by omega))).trans a0, (key _ (hm 1 (by omega))).trans a1, (key _ (hm 2 (by omega))).trans a2, (key _ (hm 3 (by omega))).trans a3, a4.set_far hbN u⟩
set_option maxHeartbeats 3200000 in
theorem markTaskT_any (A : Option Addr) (c : Nat) (rs : List RW) (g : List Bs.T) (B : Nat) (w : World) (hO : OU w B A c rs) (hS : TSc w B w.heap.size rs g) (hn : g.length ≤ 1000) (hm : ∀ t ∈ g, t.needs.length ≤ 1000) :
    Calls Try.prog 20 #[.slice A g.length c, .int .i64 1] w fun e w' => e = .returned (.int .i64 (1 + (preT g g.length : Int))) ∧ Touch B w.heap.size w w' ∧ HeldT w' B w.heap.size A g := by
  obtain ⟨b, o, f, hA, hf, hrow⟩ := hS.mrow hO
  have HF := Lib.hid hf
  have HROW := Lib.hid hrow
  have HPL := Lib.hid (preT_le hm)
  have HPS := Lib.hid (fun k (hk : k < g.length) => preT_succ hk)
  have HML := Lib.hid (fun k (hk : k < g.length) => hm _ (List.getElem_mem hk))
  have HA := Lib.hid hA
  have HT0 := Lib.hid (Touch.refl B w.heap.size w)
  have hz : preT g 0 = 0 := rfl
  have HZ := Lib.hid hz
  clear hm hf hrow hA hO hS hz
  go_enter Try.func20, Try.ntmps20
  go_wp2
  go_loopw [1, 5] (fun s i wr => ∃ k : Nat, k ≤ g.length ∧ i = .int .i64 k ∧ s = .int .i64 (1 + (preT g k : Int)) ∧ Touch B w.heap.size w wr ∧ (∀ j (hj : j < g.length), j < k → ∃ N cN l2 h2, HeldRow wr l2 h2 b o j N cN g[j].needs.length (1 + (preT g j : Int)) ∧ (b < l2 ∨ h2 ≤ b) ∧ f j ≤ l2 ∧ h2 ≤ f (j + 1) ∧ B ≤ l2 ∧ h2 ≤ w.heap.size)) (fun _ i _ => g.length - (intOf i).toNat)
  case atStart => exact ⟨0, Nat.zero_le _, rfl, by rw [HZ.out]; rfl, HT0.out, fun j _ hj => by omega⟩
  case round =>
    clear HT0
    obtain ⟨k, hk, rfl, rfl, hT, hd⟩ := hrel
    have HD := Lib.hid hd
    have hpk := HPL.out k hk
    clear hd
    by_cases hlt : k < g.length
    · obtain ⟨N, cN, x, y, z, h1, h2, c0, c1, c2, c3, hfz, l1, u1, hN, hbb, hf1, hf2, hB1, hB2⟩ := HROW.out k hlt
      have hA0 := HA.out (by omega)
      subst hA0
      have hml := HML.out k hlt
      have hp0 : (0 : Int) ≤ (preT g k : Int) := by omega
      have hp1 : (preT g k : Int) ≤ 2000000 := by omega
      have HPSk := Lib.hid (show (1 : Int) + (preT g k : Int) + 1 + (g[k].needs.length : Int) + 1 + 1 = 1 + (preT g (k + 1) : Int) from by rw [HPS.out k hlt]; omega)
      generalize hp : (preT g k : Int) = p at *
      have HP := Lib.hid hp
      clear hp
      obtain ⟨x', d0⟩ := hT.int c0
      have d1 := hT.other c1
      have df : ∀ j, wr.frozen? ⟨b, j, none⟩ = false := fun j => (hT.frozen _).trans (hfz j)
      have t1 := Touch.store d0 (Nat.le_refl b) (show b < b + 1 by omega) (1 + p)
      have hN1 := (hN.touch hT).touch t1
      have f0 := df (o + k * 4)
      have d1' := t1.other d1
      have C1 := Lib.hid (markIntS_any N g[k].needs.length cN (1 + p + 1) l1 u1 _ hN1 (by omega) (by omega) (by omega))
      have HT := Lib.hid hT
      have T1 := Lib.hid t1
      have HC := Lib.hid (And.intro c2 c3)
      have DF := Lib.hid df
      have i0 : (0 : Int) ≤ (k : Int) := by omega
      have i1 : (k : Int) < (g.length : Int) := by omega
      clear hN hN1 hT c0 c1 c2 c3 t1 hfz df d1
      go_wp2_with fail
      with_reducible refine (C1.out).mono ?_
      rintro e w1 ⟨rfl, ht1, hr1⟩
      have t0 : w1.cell? ⟨b, o + k * 4, none⟩ = some (.int .i64 (1 + p)) := (ht1.cellTo (p := ⟨b, o + k * 4, none⟩) hbb).trans (World.cell?_setCell_same _ _ _ d0)
      have t1 : w1.cell? ⟨b, o + k * 4 + 1, none⟩ = some (.slice N g[k].needs.length cN) := (ht1.cellTo (p := ⟨b, o + k * 4 + 1, none⟩) hbb).trans d1'
      obtain ⟨y', t2⟩ := ht1.int (T1.out.int (HT.out.int HC.out.1).choose_spec).choose_spec
      obtain ⟨z', t3⟩ := ht1.int (T1.out.int (HT.out.int HC.out.2).choose_spec).choose_spec
      have g2 : w1.frozen? ⟨b, o + k * 4 + 2, none⟩ = false := (ht1.frozen _).trans ((T1.out.frozen _).trans (DF.out _))
      have g3 : w1.frozen? ⟨b, o + k * 4 + 3, none⟩ = false := (ht1.frozen _).trans ((T1.out.frozen _).trans (DF.out _))
      have u2 := Touch.store t2 (Nat.le_refl b) (show b < b + 1 by omega) (1 + p + 1 + (g[k].needs.length : Int))
      have t3' : (w1.setCell ⟨b, o + k * 4 + 2, none⟩ (.int .i64 (1 + p + 1 + (g[k].needs.length : Int)))).cell? ⟨b, o + k * 4 + 3, none⟩ = some (.int .i64 z') := by
        rw [World.cell?_setCell_other _ _ _ _ (by intro e3; injection e3 with _ e3; omega)]
        exact t3
      have u3 := Touch.store t3' (Nat.le_refl b) (show b < b + 1 by omega) (1 + p + 1 + (g[k].needs.length : Int) + 1)
      have HALL := Lib.hid ((((HT.out.trans (T1.out.more h1 h2)).trans (ht1.more hB1 hB2)).trans (u2.more h1 h2)).trans (u3.more h1 h2))
      have HD1 := Lib.hid (show ∀ j (hj : j < g.length), j < k + 1 → ∃ N cN l2 h2, HeldRow ((w1.setCell ⟨b, o + k * 4 + 2, none⟩ (.int .i64 (1 + p + 1 + (g[k].needs.length : Int)))).setCell ⟨b, o + k * 4 + 3, none⟩ (.int .i64 (1 + p + 1 + (g[k].needs.length : Int) + 1))) l2 h2 b o j N cN g[j].needs.length (1 + (preT g j : Int)) ∧ (b < l2 ∨ h2 ≤ b) ∧ f j ≤ l2 ∧ h2 ≤ f (j + 1) ∧ B ≤ l2 ∧ h2 ≤ w.heap.size from fun j hj hjk => by
        by_cases e : j = k
        · subst e
          rw [HP.out]
          refine ⟨N, cN, l1, u1, ⟨?_, ?_, ?_, ?_, ?_⟩, hbb, hf1, hf2, hB1, hB2⟩
          · rw [World.cell?_setCell_other _ _ _ _ (by intro e3; injection e3 with _ e3; omega), World.cell?_setCell_other _ _ _ _ (by intro e3; injection e3 with _ e3; omega)]
            exact t0
          · rw [World.cell?_setCell_other _ _ _ _ (by intro e3; injection e3 with _ e3; omega), World.cell?_setCell_other _ _ _ _ (by intro e3; injection e3 with _ e3; omega)]
            exact t1
          · rw [World.cell?_setCell_other _ _ _ _ (by intro e3; injection e3 with _ e3; omega)]
            exact World.cell?_setCell_same _ _ _ t2
          · exact World.cell?_setCell_same _ _ _ t3'
          · exact (hr1.set_far hbb _).set_far hbb _
        · obtain ⟨N', cN', l2, h2', a1, a2, a3, a4, a5, a6⟩ := HD.out j hj (by omega)
          have hcut : h2' ≤ l1 := Nat.le_trans a4 (Nat.le_trans (cut_le HF.out (show j + 1 ≤ k by omega) (by omega)) hf1)
          refine ⟨N', cN', l2, h2', ?_, a2, a3, a4, a5, a6⟩
          have x1 := a1.set_ (m := o + k * 4) (fun i hi => by omega) a2 (.int .i64 (1 + p))
          have x2 := x1.touch ht1 hbb (.inl hcut)
          have x3 := x2.set_ (m := o + k * 4 + 2) (fun i hi => by omega) a2 (.int .i64 (1 + p + 1 + (g[k].needs.length : Int)))
          exact x3.set_ (m := o + k * 4 + 3) (fun i hi => by omega) a2 _)
      clear ht1 hr1 u2 u3 t3' HT HD T1 C1
      go_wp2
      go_roundw
      case rel => exact ⟨k + 1, by omega, by go_num, by rw [← HPSk.out], HALL.out, HD1.out⟩
      case measure => simp [intOf]; omega
    · obtain rfl : k = g.length := by omega
      have HT := Lib.hid hT
      clear hT
      go_wp2
      go_ret
      refine ⟨rfl, HT.out, ?_⟩
      intro j hj
      obtain ⟨N, cN, l2, h2, ⟨a0, a1, a2, a3, a4⟩, _, _, _, a5, a6⟩ := HD.out j hj hj
      obtain ⟨_, _, _, _, _, b1, b2, _⟩ := HROW.out j hj
      exact ⟨b, o, N, cN, HA.out (by omega), b1, b2, a0, a1, a2, a3, a4.more a5 a6⟩
end Go.Proofs.Yteelckhkcfokhaa
