/-
  WALKS: the reader of the draws: pick, one.
-/
import Derived.Test.YtoggbndpjcfmiaaTy
namespace Go.Proofs.Ytoggbndpjcfmiaa
open Go.RowKit
theorem St.picked {w : World} {lo rb P : Nat} {A : Option Addr} {c : Nat} {l : List Int} {p : Nat} (hs : St lo rb P w) (h : w.heap[rb]? = some (.cells #[.slice A l.length c, .int .i64 p] 67 (0, 0))) (hp : p ≤ P) (hl : l.length ≤ 2000) (hb : RB w 0 lo A l) :
    St lo rb (P + 1) (w.setCell ⟨rb, 1, none⟩ (.int .i64 ((p : Int) + 1))) ∧ Fwd lo w (w.setCell ⟨rb, 1, none⟩ (.int .i64 ((p : Int) + 1))) ∧ KT w (w.setCell ⟨rb, 1, none⟩ (.int .i64 ((p : Int) + 1))) := by
  have hlo := hs.rd.1
  have hu := Upd.set_ h 1 (.int .i64 ((p : Int) + 1))
  have he := hu.ext lo
  have hbl := hu.below hlo
  refine ⟨⟨Nat.le_trans hs.le hu.size, ?_, ?_⟩, ⟨hbl, he⟩, hu.keeps.kt (by decide)⟩
  · intro b cs t s ht hlb hc i v hv
    by_cases e : b = rb
    · subst e
      rw [hu.at_] at hc
      cases hc
      rcases ht with ⟨h1, _⟩ | ⟨h1, _⟩ <;> exact absurd h1 (by decide)
    · rw [hu.other b e] at hc
      exact ((hs.wt b cs t s ht hlb hc i v hv).more (Nat.le_succ P)).ext he
  · exact ⟨hlo, A, c, l, p + 1, by rw [hu.at_]; simp, by omega, hl, hb.below hbl (Nat.le_refl _)⟩
/-- what pick hands back -/
def PickR (lo rb P n : Nat) (w : World) (e : Ending) (w' : World) : Prop := (∃ k : Nat, e = .returned (.int .i64 k) ∧ (0 < n → k < n) ∧ (n = 0 → k = 0)) ∧ St lo rb (P + 1) w' ∧ Fwd lo w w' ∧ KT w w'
theorem i64_xor_nat (a b : Nat) (ha : a < 4611686018427387904) (hb : b < 4611686018427387904) : bits .xor .i64 (a : Int) (b : Int) = ((a ^^^ b : Nat) : Int) := by
  have hx : a ^^^ b < 2 ^ 62 := Nat.xor_lt_two_pow (by omega) (by omega)
  have h1 : (BitVec.ofInt 64 (a : Int)).toNat = a := by
    rw [BitVec.ofInt_natCast, BitVec.toNat_ofNat]; exact Nat.mod_eq_of_lt (by omega)
  have h2 : (BitVec.ofInt 64 (b : Int)).toNat = b := by
    rw [BitVec.ofInt_natCast, BitVec.toNat_ofNat]; exact Nat.mod_eq_of_lt (by omega)
  show IntKind.i64.wrap ((BitVec.ofInt 64 (a : Int) ^^^ BitVec.ofInt 64 (b : Int)).toNat : Int) = _
  rw [BitVec.toNat_xor, h1, h2, IntWalk.i64_in _ (by omega)]
theorem pick_mix (x y p len : Nat) (hx : x < 256) (hy : y < 256) (hp : p ≤ 1000000) : ∃ X Y : Nat, X ≤ 1000000000000 ∧
    wrap64 ((x : Int) * 131 + (y : Int) * 1117 + (p : Int) * 29 + wrap64 (wrap64 ((p : Int) / (len : Int)) * 53)) = (X : Int) ∧ bits .xor .i64 (X : Int) ((X : Int) / 64) = (Y : Int) := by
  have hqp : p / len ≤ p := Nat.div_le_self _ _
  have f0 : (p : Int) / (len : Int) = ((p / len : Nat) : Int) := (Int.natCast_ediv p len).symm
  rw [f0]
  clear f0
  generalize p / len = q at *
  refine ⟨x * 131 + y * 1117 + p * 29 + q * 53, (x * 131 + y * 1117 + p * 29 + q * 53) ^^^ ((x * 131 + y * 1117 + p * 29 + q * 53) / 64), by omega, ?_, ?_⟩
  rotate_left
  · rw [show ((x * 131 + y * 1117 + p * 29 + q * 53 : Nat) : Int) / 64 = (((x * 131 + y * 1117 + p * 29 + q * 53) / 64 : Nat) : Int) from by omega]
    exact i64_xor_nat _ _ (by omega) (by omega)
  · have e1 := Lib.hid (IntWalk.wrap64_in (q : Int) ⟨by omega, by omega⟩)
    have e2 := Lib.hid (IntWalk.wrap64_in ((q : Int) * 53) ⟨by omega, by omega⟩)
    have e3 := Lib.hid (IntWalk.wrap64_in ((x : Int) * 131 + (y : Int) * 1117 + (p : Int) * 29 + (q : Int) * 53) ⟨by omega, by omega⟩)
    rw [e1.out, e2.out, e3.out]
    clear e1 e2 e3
    omega
set_option maxRecDepth 200000 in
set_option maxHeartbeats 1600000 in
theorem pick_any (n lo rb P : Nat) (w : World) (hs : St lo rb P w) (hP : P ≤ 1000000) (hn : n ≤ 1000000000) :
    Calls Try.prog 30 #[.pointer (some ⟨rb, 0, none⟩), .int .i64 n] w (PickR lo rb P n w) := by
  obtain ⟨hlo, A, c, l, p, hh, hpP, hl, hbs⟩ := hs.rd
  obtain ⟨hs2, hf2, hk2⟩ := hs.picked hh hpP hl hbs
  have k0 : w.cell? ⟨rb, 0, none⟩ = some (.slice A l.length c) := by rw [cell_of_row w rb 0 _ _ _ hh]; rfl
  have k1 : w.cell? ⟨rb, 1, none⟩ = some (.int .i64 p) := by rw [cell_of_row w rb 1 _ _ _ hh]; rfl
  have kf : w.frozen? ⟨rb, 1, none⟩ = false := by simp [World.frozen?, hh]
  have HS := Lib.hid hs2
  have HF := Lib.hid hf2
  have HK := Lib.hid hk2
  clear hs2 hf2 hk2 hh hs
  have hb : ∀ k (hk : k < l.length), ∃ b o, A = some ⟨b, o, none⟩ ∧ b < rb ∧ w.cell? ⟨b, o + k, none⟩ = some (.int .u8 l[k]) ∧ 0 ≤ l[k] ∧ l[k] < 256 := by
    intro k hk
    obtain ⟨b, o, e, _, h2, h3⟩ := hbs k hk
    exact ⟨b, o, e, by omega, h3⟩
  clear hbs
  have HB := Lib.hid hb
  clear hb
  by_cases h0 : n = 0
  · subst h0
    go_enter Try.func30, Try.ntmps30
    go_wp2_with fail
    go_ret
    exact ⟨⟨0, rfl, fun h => absurd h (by omega), fun _ => rfl⟩, HS.out, HF.out, HK.out⟩
  · by_cases hl0 : l.length = 0
    · go_enter Try.func30, Try.ntmps30
      go_wp2_with fail
      go_ret
      exact ⟨⟨0, rfl, fun h => h, fun _ => rfl⟩, HS.out, HF.out, HK.out⟩
    · have hnb := Lib.hid (show ¬ ((n : Int) < 1 ∨ ((l.length : Int) == 0) = true) from by rw [beq_iff_eq]; omega)
      by_cases hk : p < l.length
      · obtain ⟨b, o, rfl, hbr, hc, hx0, hx1⟩ := HB.out p hk
        obtain ⟨x, hx⟩ : ∃ x : Nat, l[p] = x := ⟨l[p].toNat, by omega⟩
        rw [hx] at hc hx0 hx1
        clear hx hx0
        have hne : ¬ (rb = b) := by omega
        go_enter Try.func30, Try.ntmps30
        go_wp2_with fail
        · go_ret
          exact ⟨⟨x % n, ret_int (k := .i64) (show (x : Int) % (n : Int) = ((x % n : Nat) : Int) from (Int.natCast_emod x n).symm), fun h => Nat.mod_lt _ h, fun h => absurd h h0⟩, HS.out, HF.out, HK.out⟩
      · have hpos : 0 < l.length := by omega
        have a1 := Nat.mod_lt p hpos
        have a2 := Nat.mod_lt (p * 7 + 3) hpos
        have e1 : Int.tmod (p : Int) (l.length : Int) = ((p % l.length : Nat) : Int) := by rw [Int.ofNat_tmod]
        have e2 : Int.tmod ((p : Int) * 7 + 3) (l.length : Int) = (((p * 7 + 3) % l.length : Nat) : Int) := by rw [Int.ofNat_tmod]; simp
        obtain ⟨b, o, rfl, hbr, hc1, hx0, hx1⟩ := HB.out _ a1
        obtain ⟨b2, o2, e, _, hc2, hy0, hy1⟩ := HB.out _ a2
        cases e
        generalize p % l.length = m1 at *
        generalize (p * 7 + 3) % l.length = m2 at *
        obtain ⟨x, hx⟩ : ∃ x : Nat, l[m1] = x := ⟨l[m1].toNat, by omega⟩
        obtain ⟨y, hy⟩ : ∃ x : Nat, l[m2] = x := ⟨l[m2].toNat, by omega⟩
        rw [hx] at hc1 hx0 hx1
        rw [hy] at hc2 hy0 hy1
        clear hx hy hx0 hy0
        have hne : ¬ (rb = b) := by omega
        have hz : ((l.length : Int) == 0) = false := by rw [beq_eq_false_iff_ne]; omega
        go_enter Try.func30, Try.ntmps30
        go_wp2_with fail
        · go_quiet (fail)
          obtain ⟨X, Y, hX, e3, e4⟩ := pick_mix x y p l.length (by omega) (by omega) (by omega)
          rw [e3]
          clear e3
          have hX1 : (X : Int) ≤ 1000000000000 := by omega
          clear hX
          go_wp2_with fail
          go_ret
          exact ⟨⟨Y % n, ret_int (k := .i64) (show (Y : Int) % (n : Int) = ((Y % n : Nat) : Int) from (Int.natCast_emod Y n).symm), fun h => Nat.mod_lt _ h, fun h => absurd h h0⟩, HS.out.drewN _ |>.1, HF.out.trans (HS.out.drewN _).2, HK.out.trans (KT.drewN _ _)⟩
end Go.Proofs.Ytoggbndpjcfmiaa
