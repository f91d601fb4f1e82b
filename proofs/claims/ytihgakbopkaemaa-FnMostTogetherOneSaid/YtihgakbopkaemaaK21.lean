/-
  MERGED TEXTS: D1 D2 D3 D4 D5 D6 D7 D8.
-/
import Derived.Test.YtihgakbopkaemaaTy
import Derived.Test.YtihgakbopkaemaaK1
import Derived.Deep.RegionLaw
import Derived.Deep.AppendLies
namespace Go.Proofs.Ytihgakbopkaemaa
open Go.RowKit
theorem St.picked {w : World} {lo rb P : Nat} {A : Option Addr} {c : Nat} {l : List Int} {p : Nat} (hs : St lo rb P w) (h : w.heap[rb]? = some (.cells #[.slice A l.length c, .int .i64 p] 100 (0, 0))) (hp : p ≤ P) (hl : l.length ≤ 2000) (hb : RB w 0 lo A l) :
    St lo rb (P + 1) (w.setCell ⟨rb, 1, none⟩ (.int .i64 ((p : Int) + 1))) ∧ Fwd lo w (w.setCell ⟨rb, 1, none⟩ (.int .i64 ((p : Int) + 1))) ∧ KT w (w.setCell ⟨rb, 1, none⟩ (.int .i64 ((p : Int) + 1))) := by
  have hlo := hs.rd.1
  have hu := Upd.set_ h 1 (.int .i64 ((p : Int) + 1))
  have he := hu.ext lo
  have hbl := hu.below hlo
  refine ⟨⟨Nat.le_trans hs.le hu.size, ?_, ?_⟩, ⟨hbl, he⟩, hu.keeps.kt (by decide)⟩
  · intro b cs t s ht hlb hc i v hv
    by_cases e : b = rb
    · subst e
      rw [hu.at_] at hc
      cases hc
      rcases ht with ⟨h1, _⟩ | ⟨h1, _⟩ <;> exact absurd h1 (by decide)
    · rw [hu.other b e] at hc
      exact ((hs.wt b cs t s ht hlb hc i v hv).more (Nat.le_succ P)).ext he
  · exact ⟨hlo, A, c, l, p + 1, by rw [hu.at_]; simp, by omega, hl, hb.below hbl (Nat.le_refl _)⟩
/-- what pick hands back -/
def PickR (lo rb P n : Nat) (w : World) (e : Ending) (w' : World) : Prop := (∃ k : Nat, e = .returned (.int .i64 k) ∧ (0 < n → k < n) ∧ (n = 0 → k = 0)) ∧ St lo rb (P + 1) w' ∧ Fwd lo w w' ∧ KT w w'
theorem i64_xor_nat (a b : Nat) (ha : a < 4611686018427387904) (hb : b < 4611686018427387904) : bits .xor .i64 (a : Int) (b : Int) = ((a ^^^ b : Nat) : Int) := by
  have hx : a ^^^ b < 2 ^ 62 := Nat.xor_lt_two_pow (by omega) (by omega)
  have h1 : (BitVec.ofInt 64 (a : Int)).toNat = a := by
    rw [BitVec.ofInt_natCast, BitVec.toNat_ofNat]; exact Nat.mod_eq_of_lt (by omega)
  have h2 : (BitVec.ofInt 64 (b : Int)).toNat = b := by
    rw [BitVec.ofInt_natCast, BitVec.toNat_ofNat]; exact Nat.mod_eq_of_lt (by omega)
  show IntKind.i64.wrap ((BitVec.ofInt 64 (a : Int) ^^^ BitVec.ofInt 64 (b : Int)).toNat : Int) = _
  rw [BitVec.toNat_xor, h1, h2, IntWalk.i64_in _ (by omega)]
theorem pick_mix (x y p len : Nat) (hx : x < 256) (hy : y < 256) (hp : p ≤ 1000000) : ∃ X Y : Nat, X ≤ 1000000000000 ∧
    wrap64 ((x : Int) * 131 + (y : Int) * 1117 + (p : Int) * 29 + wrap64 (wrap64 ((p : Int) / (len : Int)) * 53)) = (X : Int) ∧ bits .xor .i64 (X : Int) ((X : Int) / 64) = (Y : Int) := by
  have hqp : p / len ≤ p := Nat.div_le_self _ _
  have f0 : (p : Int) / (len : Int) = ((p / len : Nat) : Int) := (Int.natCast_ediv p len).symm
  rw [f0]
  clear f0
  generalize p / len = q at *
  refine ⟨x * 131 + y * 1117 + p * 29 + q * 53, (x * 131 + y * 1117 + p * 29 + q * 53) ^^^ ((x * 131 + y * 1117 + p * 29 + q * 53) / 64), by omega, ?_, ?_⟩
  rotate_left
  · rw [show ((x * 131 + y * 1117 + p * 29 + q * 53 : Nat) : Int) / 64 = (((x * 131 + y * 1117 + p * 29 + q * 53) / 64 : Nat) : Int) from by omega]
    exact i64_xor_nat _ _ (by omega) (by omega)
  · have e1 := Lib.hid (IntWalk.wrap64_in (q : Int) ⟨by omega, by omega⟩)
    have e2 := Lib.hid (IntWalk.wrap64_in ((q : Int) * 53) ⟨by omega, by omega⟩)
    have e3 := Lib.hid (IntWalk.wrap64_in ((x : Int) * 131 + (y : Int) * 1117 + (p : Int) * 29 + (q : Int) * 53) ⟨by omega, by omega⟩)
    rw [e1.out, e2.out, e3.out]
    clear e1 e2 e3
    omega
set_option maxRecDepth 200000 in
set_option maxHeartbeats 1600000 in
theorem pick_any (n lo rb P : Nat) (w : World) (hs : St lo rb P w) (hP : P ≤ 1000000) (hn : n ≤ 1000000000) :
    Calls Try.prog 42 #[.pointer (some ⟨rb, 0, none⟩), .int .i64 n] w (PickR lo rb P n w) := by
  obtain ⟨hlo, A, c, l, p, hh, hpP, hl, hbs⟩ := hs.rd
  obtain ⟨hs2, hf2, hk2⟩ := hs.picked hh hpP hl hbs
  have k0 : w.cell? ⟨rb, 0, none⟩ = some (.slice A l.length c) := by rw [cell_of_row w rb 0 _ _ _ hh]; rfl
  have k1 : w.cell? ⟨rb, 1, none⟩ = some (.int .i64 p) := by rw [cell_of_row w rb 1 _ _ _ hh]; rfl
  have kf : w.frozen? ⟨rb, 1, none⟩ = false := by simp [World.frozen?, hh]
  have HS := Lib.hid hs2
  have HF := Lib.hid hf2
  have HK := Lib.hid hk2
  clear hs2 hf2 hk2 hh hs
  have hb : ∀ k (hk : k < l.length), ∃ b o, A = some ⟨b, o, none⟩ ∧ b < rb ∧ w.cell? ⟨b, o + k, none⟩ = some (.int .u8 l[k]) ∧ 0 ≤ l[k] ∧ l[k] < 256 := by
    intro k hk
    obtain ⟨b, o, e, _, h2, h3⟩ := hbs k hk
    exact ⟨b, o, e, by omega, h3⟩
  clear hbs
  have HB := Lib.hid hb
  clear hb
  by_cases h0 : n = 0
  · subst h0
    go_enter Try.func42, Try.ntmps42
    go_wp2_with fail
    go_ret
    exact ⟨⟨0, rfl, fun h => absurd h (by omega), fun _ => rfl⟩, HS.out, HF.out, HK.out⟩
  · by_cases hl0 : l.length = 0
    · go_enter Try.func42, Try.ntmps42
      go_wp2_with fail
      go_ret
      exact ⟨⟨0, rfl, fun h => h, fun _ => rfl⟩, HS.out, HF.out, HK.out⟩
    · have hnb := Lib.hid (show ¬ ((n : Int) < 1 ∨ ((l.length : Int) == 0) = true) from by rw [beq_iff_eq]; omega)
      by_cases hk : p < l.length
      · obtain ⟨b, o, rfl, hbr, hc, hx0, hx1⟩ := HB.out p hk
        obtain ⟨x, hx⟩ : ∃ x : Nat, l[p] = x := ⟨l[p].toNat, by omega⟩
        rw [hx] at hc hx0 hx1
        clear hx hx0
        have hne : ¬ (rb = b) := by omega
        go_enter Try.func42, Try.ntmps42
        go_wp2_with fail
        · go_ret
          exact ⟨⟨x % n, ret_int (k := .i64) (show (x : Int) % (n : Int) = ((x % n : Nat) : Int) from (Int.natCast_emod x n).symm), fun h => Nat.mod_lt _ h, fun h => absurd h h0⟩, HS.out, HF.out, HK.out⟩
      · have hpos : 0 < l.length := by omega
        have a1 := Nat.mod_lt p hpos
        have a2 := Nat.mod_lt (p * 7 + 3) hpos
        have e1 : Int.tmod (p : Int) (l.length : Int) = ((p % l.length : Nat) : Int) := by rw [Int.ofNat_tmod]
        have e2 : Int.tmod ((p : Int) * 7 + 3) (l.length : Int) = (((p * 7 + 3) % l.length : Nat) : Int) := by rw [Int.ofNat_tmod]; simp
        obtain ⟨b, o, rfl, hbr, hc1, hx0, hx1⟩ := HB.out _ a1
        obtain ⟨b2, o2, e, _, hc2, hy0, hy1⟩ := HB.out _ a2
        cases e
        generalize p % l.length = m1 at *
        generalize (p * 7 + 3) % l.length = m2 at *
        obtain ⟨x, hx⟩ : ∃ x : Nat, l[m1] = x := ⟨l[m1].toNat, by omega⟩
        obtain ⟨y, hy⟩ : ∃ x : Nat, l[m2] = x := ⟨l[m2].toNat, by omega⟩
        rw [hx] at hc1 hx0 hx1
        rw [hy] at hc2 hy0 hy1
        clear hx hy hx0 hy0
        have hne : ¬ (rb = b) := by omega
        have hz : ((l.length : Int) == 0) = false := by rw [beq_eq_false_iff_ne]; omega
        go_enter Try.func42, Try.ntmps42
        go_wp2_with fail
        · go_quiet (fail)
          obtain ⟨X, Y, hX, e3, e4⟩ := pick_mix x y p l.length (by omega) (by omega) (by omega)
          rw [e3]
          clear e3
          have hX1 : (X : Int) ≤ 1000000000000 := by omega
          clear hX
          go_wp2_with fail
          go_ret
          exact ⟨⟨Y % n, ret_int (k := .i64) (show (Y : Int) % (n : Int) = ((Y % n : Nat) : Int) from (Int.natCast_emod Y n).symm), fun h => Nat.mod_lt _ h, fun h => absurd h h0⟩, HS.out.drewN _ |>.1, HF.out.trans (HS.out.drewN _).2, HK.out.trans (KT.drewN _ _)⟩
end Go.Proofs.Ytihgakbopkaemaa
namespace Go.Proofs.Ytihgakbopkaemaa
open Go.RowKit
theorem tI : Typ 3 1 := .inl ⟨rfl, rfl⟩
theorem tT : Typ 35 4 := .inr ⟨rfl, rfl⟩
/-- an element of a slice of integers -/
theorem SL.cell {w : World} {lo rb P n k : Nat} {A : Option Addr} {c : Nat} (h : SL w lo 3 1 (.slice A n c) n) (hs : St lo rb P w) (hk : k < n) :
    ∃ b o x, A = some ⟨b, o, none⟩ ∧ w.cell? ⟨b, o + k, none⟩ = some (.int .i64 x) ∧ lo ≤ b ∧ w.frozen? ⟨b, o + k, none⟩ = false ∧ Row w lo b 3 (o + k + 1) := by
  obtain ⟨A', c', e, h1, h2, h3⟩ := h
  cases e
  rcases h3 with ⟨_, h3⟩ | ⟨b, o, rfl, hr⟩
  · omega
  · obtain ⟨v, hv, ht, hf⟩ := hr.at_ hs.wt tI (i := o * 1 + k) (by omega)
    obtain ⟨x, rfl⟩ := ht.isI
    exact ⟨b, o * 1, x, rfl, hv, hr.1, hf, hr.less (by omega)⟩
theorem SL.form {w : World} {lo n : Nat} {t : TypeId} {s : Nat} {v : Value} (h : SL w lo t s v n) : ∃ A c, v = .slice A n c ∧ n ≤ c ∧ c ≤ maxLen ∧ SL w lo t s (.slice A n c) n := by
  obtain ⟨A, c, rfl, h1, h2, h3⟩ := h
  exact ⟨A, c, rfl, h1, h2, A, c, rfl, h1, h2, h3⟩
def OneR (lo rb P : Nat) (w : World) (e : Ending) (w' : World) : Prop := (∃ x, e = .returned (.int .i64 x)) ∧ St lo rb (P + 1) w' ∧ Fwd lo w w' ∧ KT w w'
theorem one_any (v : Value) (n lo rb P : Nat) (w : World) (hs : St lo rb P w) (hP : P ≤ 1000000) (hv : SL w lo 3 1 v n) (h0 : 0 < n) (hn : n ≤ 1000000000) :
    Calls Try.prog 43 #[.pointer (some ⟨rb, 0, none⟩), v] w (OneR lo rb P w) := by
  obtain ⟨A, c, rfl, hnc, hcm, hv⟩ := hv.form
  have C1 := Lib.hid (pick_any n lo rb P w hs hP hn)
  have HV := Lib.hid hv
  clear hv hs
  go_enter Try.func43, Try.ntmps43
  go_wp2_with fail
  refine (C1.out).mono ?_
  rintro e w1 ⟨⟨k, rfl, hk, _⟩, hs1, hf1, hkt⟩
  obtain ⟨b, o, x, rfl, hc, _, _, _⟩ := (HV.out.ext tI hf1.2).cell hs1 (hk h0)
  have hkn := hk h0
  have HS := Lib.hid hs1
  have HF := Lib.hid hf1
  have HK := Lib.hid hkt
  clear hk hs1 hf1 hkt
  go_wp2_with fail
  go_ret
  exact ⟨⟨x, rfl⟩, HS.out, HF.out, HK.out⟩
/-- a slice that is handed back -/
def SlR (lo rb P n : Nat) (t : TypeId) (s : Nat) (w : World) (e : Ending) (w' : World) : Prop := (∃ v, e = .returned v ∧ SL w' lo t s v n) ∧ St lo rb P w' ∧ Fwd lo w w'
theorem SL.nilB {w : World} {lo : Nat} {t : TypeId} {s : Nat} : SL w lo t s (.slice none 0 0) 0 := ⟨none, 0, rfl, Nat.le_refl _, Nat.zero_le _, .inl ⟨rfl, rfl⟩⟩
theorem SL.fresh {w : World} {lo : Nat} {t : TypeId} {s : Nat} (hlo : lo ≤ w.heap.size) (cs : Array Value) {n : Nat} (hn : n * s = cs.size) (h63 : n ≤ maxLen) : SL (w.alloc (.cells cs t)) lo t s (.slice (some ⟨w.heap.size, 0, none⟩) n n) n :=
  ⟨_, n, rfl, Nat.le_refl _, h63, .inr ⟨w.heap.size, 0, by simp, hlo, cs, heap_alloc_new w _, by rw [Nat.zero_add, hn]; exact Nat.le_refl _⟩⟩
theorem St.allocI {w : World} {lo rb P : Nat} (hs : St lo rb P w) (cs : Array Value) (h : ∀ v ∈ cs.toList, IsI v) : St lo rb P (w.alloc (.cells cs 3)) ∧ Fwd lo w (w.alloc (.cells cs 3)) :=
  hs.alloc _ cs (by decide) fun s ht i v hv => TY.int _ _ _ _ (h v (by rw [Array.mem_toList_iff]; exact Array.mem_of_getElem? hv))
/-- what lies in the cells of a slice of integers -/
theorem SL.cells {w : World} {lo rb P n : Nat} {v : Value} (h : SL w lo 3 1 v n) (hs : St lo rb P w) : ∃ news : List Value, Src Try.prog 1 24 v n news w ∧ ∀ u ∈ news, IsI u := by
  obtain ⟨A, c, rfl, h1, h2, h3⟩ := h
  rcases h3 with ⟨rfl, rfl⟩ | ⟨b, o, rfl, hlo, cs, hc, hm⟩
  · have : n = 0 := by omega
    subst this
    exact ⟨[], Src.ofNil w Try.underlying24 0, fun u hu => by cases hu⟩
  · have hty : ∀ u ∈ (cs.toList.drop (o * 1)).take n, IsI u := by
      intro u hu
      obtain ⟨i, hi, e⟩ := List.mem_iff_getElem.1 (List.mem_of_mem_drop (List.mem_of_mem_take hu))
      exact (hs.wt b cs _ 1 tI hlo hc i u (by simp at hi; simp [hi]; simpa using e)).isI
    refine ⟨(cs.toList.drop (o * 1)).take n, Src.ofSlice w Try.underlying24 ⟨b, o * 1, none⟩ n c _ (by simp; omega) ?_ ?_, hty⟩
    · intro j u hj
      rw [List.getElem?_take] at hj
      split at hj
      · rw [List.getElem?_drop] at hj
        rw [Addr.add_lit, cell_of_row w b _ cs _ (0, 0) hc]
        simpa using hj
      · cases hj
    · intro u hu
      obtain ⟨x, rfl⟩ := hty u hu
      rfl
theorem run_push_ints {lo rb P : Nat} {w : World} {ty : TypeId} {v x : Value} {n m : Nat} (hs : St lo rb P w) (hv : SL w lo 3 1 v n) (hx : SL w lo 3 1 x m) (hm : n + m ≤ 1000000000) :
    ∃ v' w', (Builtin.append_ #[24, 24] ty #[v, x]).run Try.prog w = .ok v' w' ∧ SL w' lo 3 1 v' (n + m) ∧ St lo rb P w' ∧ Fwd lo w w' ∧ Keeps 3 w w' := by
  obtain ⟨i0, hi0, hz0, hz1, hz2⟩ := info_parts Try.info3
  obtain ⟨news, hsrc, hty⟩ := hx.cells hs
  exact run_push tI Try.underlying24 hi0 hz0 hz1 hz2 (by omega) rfl (fun j _ => TY.int _ _ _ _ (by cases j with
      | zero => exact ⟨0, rfl⟩
      | succ j => omega)) hs hv hsrc (fun j u hj => TY.int _ _ _ _ (hty u (List.mem_of_getElem? hj))) hm
/-- 'append(s, xs...)' of integers, in a walk -/
theorem push_ti {ops : Array Oper} {rest : List Oper} {o : Oper} {a : Act} {Q : Exit → Act → World → Prop} {w : World} (hgd : o.guard = none) (s x : Operand)
    (ho : o.op = .call { callee := .builtin .append, args := #[s, x], argTypes := #[24, 24] }) {lo rb P n m : Nat} (hs : St lo rb P w) (hv : SL w lo 3 1 (a.eval s) n) (hx : SL w lo 3 1 (a.eval x) m) (hm : n + m ≤ 1000000000)
    (h : ∀ A c w', n + m ≤ c → c ≤ maxLen → SL w' lo 3 1 (.slice A (n + m) c) (n + m) → St lo rb P w' → Fwd lo w w' → Keeps 3 w w' → wpList Try.prog ops Q rest (a.put o.dst (.slice A (n + m) c)) w') : wpList Try.prog ops Q (o :: rest) a w := by
  refine wpList_plain hgd fun K hK => ?_
  obtain ⟨v', w', hr, h1, h2, h3, h4⟩ := run_push_ints (ty := o.type) hs hv hx hm
  obtain ⟨A, c, rfl, hnc, hcm, h1⟩ := h1.form
  unfold Oper.wp
  simp [execOp, ho, resolve, invoke, builtin, hr, Result.andThen]
  exact hK _ _ (h A c w' hnc hcm h1 h2 h3 h4)
theorem copyInts_any (v : Value) (n lo rb P : Nat) (w : World) (hs : St lo rb P w) (hv : SL w lo 3 1 v n) (hn : n ≤ 1000000000) :
    Calls Try.prog 100 #[v] w (fun e w' => SlR lo rb P n 3 1 w e w' ∧ KT w w') := by
  obtain ⟨A, c, rfl, hnc, hcm, hv⟩ := hv.form
  obtain ⟨s1, f1⟩ := hs.allocI #[] (by simp)
  have v1 := hv.ext tI f1.2
  have v0 : SL (w.alloc (.cells #[] 3)) lo 3 1 (.slice (some ⟨w.heap.size, 0, none⟩) 0 0) 0 := SL.fresh hs.le #[] (by simp) (Nat.zero_le _)
  have HH := Lib.hid (And.intro s1 (And.intro f1 (And.intro v1 v0)))
  clear hs hv s1 f1 v1 v0
  go_enter Try.func100, Try.ntmps100
  go_wp2_with (at_builtin; refine push_ti rfl _ _ rfl HH.out.1 HH.out.2.2.2 HH.out.2.2.1 (by omega) ?_; intro A2 c2 w2 hnc2 hcm2 hv2 hs2 hf2 hk2)
  have HK := Lib.hid ((KT.alloc w (.cells #[] 3)).trans (hk2.kt (by decide)))
  clear hk2
  rw [Nat.zero_add] at *
  go_wp2
  go_ret
  exact ⟨⟨⟨_, rfl, hv2⟩, hs2, HH.out.2.1.trans hf2⟩, HK.out⟩
end Go.Proofs.Ytihgakbopkaemaa
namespace Go.Proofs.Ytihgakbopkaemaa
open Go.RowKit
theorem one_new (cs : Array Value) (n lo rb P : Nat) (w : World) (hs : St lo rb P w) (hP : P ≤ 1000000) (h : ∀ v ∈ cs.toList, IsI v) (hn : n = cs.size) (h0 : 0 < n) (h1 : n ≤ 1000) {g : Nat} (hg : w.heap.size = g) :
    Calls Try.prog 43 #[.pointer (some ⟨rb, 0, none⟩), .slice (some ⟨g, 0, none⟩) n n] (w.alloc (.cells cs 3)) (OneR lo rb P w) := by
  subst hg
  obtain ⟨s1, f1⟩ := hs.allocI cs h
  refine (one_any _ n lo rb P _ s1 hP (SL.fresh hs.le cs (by omega) (by unfold maxLen; omega)) h0 (by omega)).mono ?_
  rintro e w' ⟨h1, h2, h3, h4⟩
  exact ⟨h1, h2, f1.trans h3, (KT.alloc w _).trans h4⟩
/-- a list of at most m elements that is handed back -/
def SpR (lo rb P m : Nat) (w : World) (e : Ending) (w' : World) : Prop := (∃ v n, n ≤ m ∧ e = .returned v ∧ SL w' lo 3 1 v n) ∧ St lo rb P w' ∧ Fwd lo w w' ∧ KT w w'
theorem SL.tail1 {w : World} {lo n c : Nat} {A : Option Addr} (h : SL w lo 3 1 (.slice A n c) n) (hc : c = 1) : SL w lo 3 1 (.slice A (n - 1) 0) (n - 1) := by
  obtain ⟨A', c', e, h1, h2, h3⟩ := h
  cases e
  refine ⟨A, 0, rfl, by omega, Nat.zero_le _, ?_⟩
  rcases h3 with ⟨rfl, h3⟩ | ⟨b, o, rfl, hr⟩
  · exact .inl ⟨rfl, rfl⟩
  · exact .inr ⟨b, o, rfl, hr.less (by omega)⟩
theorem SL.tail {w : World} {lo n c : Nat} {A : Option Addr} (h : SL w lo 3 1 (.slice A n c) n) (hn : ¬ n = 0) : SL w lo 3 1 (.slice (Option.map (fun x => { block := x.block, off := x.off + 1 }) A) (n - 1) (c - 1)) (n - 1) := by
  obtain ⟨A', c', e, h1, h2, h3⟩ := h
  cases e
  refine ⟨_, _, rfl, by omega, by omega, ?_⟩
  rcases h3 with ⟨rfl, h3⟩ | ⟨b, o, rfl, hr⟩
  · omega
  · exact .inr ⟨b, o + 1, by simp, hr.less (by omega)⟩
set_option maxHeartbeats 1600000 in
theorem spoil_any (v : Value) (n lo rb P : Nat) (q : Int) (w : World) (hs : St lo rb P w) (hP : P ≤ 900000) (hv : SL w lo 3 1 v n) (hn : n ≤ 100000000) :
    Calls Try.prog 79 #[.pointer (some ⟨rb, 0, none⟩), v, .int .i64 q] w (SpR lo rb (P + 4) (n + 1) w) := by
  have C1 := Lib.hid (copyInts_any v n lo rb P w hs hv (by omega))
  clear hs hv
  go_enter Try.func79, Try.ntmps79
  go_wp2_with fail
  refine (C1.out).mono ?_
  rintro e w1 ⟨⟨⟨v1, rfl, hv1⟩, hs1, hf1⟩, hk1⟩
  clear C1
  obtain ⟨A, c, rfl, hnc, hcm, hv1⟩ := hv1.form
  have HV := Lib.hid hv1
  have HS := Lib.hid hs1
  have HF := Lib.hid hf1
  have HK := Lib.hid hk1
  have C1 := Lib.hid (pick_any 20 lo rb P w1 hs1 (by omega) (by omega))
  clear hv1 hs1 hf1 hk1
  go_wp2_with fail
  refine (C1.out).mono ?_
  rintro e w2 ⟨⟨k, rfl, hk, _⟩, hs2, hf2, hk2⟩
  have HK := Lib.hid (HK.out.trans hk2)
  clear C1 hk hk2
  have HF := Lib.hid (HF.out.trans hf2)
  have HV := Lib.hid (HV.out.ext tI hf2.2)
  have HS := Lib.hid hs2
  clear hs2 hf2
  by_cases k0 : k = 0
  · subst k0
    obtain ⟨s1, f1⟩ := HS.out.allocI #[.int .i64 q] (by simp [IsI])
    have HH := Lib.hid (And.intro s1 (And.intro f1 (And.intro (HV.out.ext tI f1.2) (SL.fresh (t := 3) (s := 1) HS.out.le #[.int .i64 q] (n := 1) (by simp) (by decide)))))
    clear s1 f1
    go_wp2_with (at_builtin; refine push_ti rfl _ _ rfl HH.out.1 HH.out.2.2.1 HH.out.2.2.2 (by omega) ?_; intro A2 c2 w3 hnc2 hcm2 hv3 hs3 hf3 hk3)
    have HS3 := Lib.hid hs3
    have HV3 := Lib.hid hv3
    have HF3 := Lib.hid hf3
    have HK := Lib.hid (HK.out.trans ((KT.alloc w2 (.cells #[.int .i64 q] 3)).trans (hk3.kt (by decide))))
    clear hs3 hv3 hf3 hk3
    go_wp2
    go_ret
    exact ⟨⟨_, _, Nat.le_refl _, rfl, HV3.out⟩, HS3.out.more (by omega), HF.out.trans (HH.out.2.1.trans HF3.out), HK.out⟩
  · by_cases k1 : k = 1
    · subst k1
      by_cases hn0 : n = 0
      · have HV := Lib.hid (show SL w2 lo 3 1 (.slice A 0 c) 0 from hn0 ▸ HV.out)
        go_wp2
        go_ret
        exact ⟨⟨_, _, Nat.zero_le _, rfl, HV.out⟩, HS.out.more (by omega), HF.out, HK.out⟩
      · have HT := Lib.hid (HV.out.tail hn0)
        have HT1 := fun h => Lib.hid (HV.out.tail1 h)
        by_cases hc1 : c = 1
        · have HT1 := HT1 hc1
          clear HT
          go_wp2
          go_ret
          exact ⟨⟨_, n - 1, by omega, rfl, HT1.out⟩, HS.out.more (by omega), HF.out, HK.out⟩
        · clear HT1
          go_wp2
          go_ret
          exact ⟨⟨_, n - 1, by omega, rfl, HT.out⟩, HS.out.more (by omega), HF.out, HK.out⟩
    · by_cases k2 : k = 2
      · subst k2
        by_cases hn0 : n = 0
        · have HV := Lib.hid (show SL w2 lo 3 1 (.slice A 0 c) 0 from hn0 ▸ HV.out)
          go_wp2
          go_ret
          exact ⟨⟨_, _, Nat.zero_le _, rfl, HV.out⟩, HS.out.more (by omega), HF.out, HK.out⟩
        · have C1 := Lib.hid (pick_any n lo rb (P + 1) w2 HS.out (by omega) (by omega))
          go_wp2_with fail
          refine (C1.out).mono ?_
          rintro e w3 ⟨⟨k, rfl, hk, _⟩, hs3, hf3, hk3⟩
          have HK := Lib.hid (HK.out.trans hk3)
          clear hk3
          have hk := hk (by omega)
          have HF := Lib.hid (HF.out.trans hf3)
          have HV := Lib.hid (HV.out.ext tI hf3.2)
          have HS := Lib.hid hs3
          clear hs3 hf3 C1
          have C1 := Lib.hid (one_new #[.int .i64 (-1), .int .i64 q, .int .i64 0, .int .i64 1] 4 lo rb (P + 2) w3 HS.out (by omega) (by simp [IsI]) rfl (by omega) (by omega) rfl)
          go_wp2_with fail
          refine (C1.out).mono ?_
          rintro e w4 ⟨⟨x, rfl⟩, hs4, hf4, hk4⟩
          have hv4 := HV.out.ext tI hf4.2
          obtain ⟨b, o, y, rfl, hc, hlb, hfr, hrw⟩ := hv4.cell hs4 hk
          obtain ⟨s5, f5⟩ := hs4.set_ (u := .int .i64 x) (i := o + k) hrw tI (TY.int _ _ _ _ ⟨x, rfl⟩)
          have HK := Lib.hid (HK.out.trans (hk4.trans (by obtain ⟨_, cs, hcs, _⟩ := hrw; exact (Upd.set_ hcs (o + k) (.int .i64 x)).keeps.kt (by decide))))
          clear hk4
          have HF := Lib.hid (HF.out.trans (hf4.trans f5))
          have HV := Lib.hid (hv4.ext tI f5.2)
          have HS := Lib.hid s5
          clear hs4 hf4 hv4 C1 s5 f5 hrw
          go_wp2
          go_ret
          exact ⟨⟨_, n, by omega, rfl, HV.out⟩, HS.out.more (by omega), HF.out, HK.out⟩
      · go_wp2
        go_ret
        exact ⟨⟨_, _, by omega, rfl, HV.out⟩, HS.out.more (by omega), HF.out, HK.out⟩
end Go.Proofs.Ytihgakbopkaemaa
namespace Go.Proofs.Ytihgakbopkaemaa
open Go.RowKit
theorem Try.infoTaskD : (Try.prog.info? 35).map (fun i => (i.zero, i.size, i.bytes)) = some (some (.agg #[.int .i64 0, .slice none 0 0, .int .i64 0, .int .i64 0]), 4, 48) := by kernel_rfl
/-- the four cells of a task from place o on -/
structure TC (w : World) (lo P b o : Nat) (t : Int) (N : Option Addr) (m c : Nat) (p u : Int) : Prop where
  c0 : w.cell? ⟨b, o, none⟩ = some (.int .i64 t)
  c1 : w.cell? ⟨b, o + 1, none⟩ = some (.slice N m c)
  c2 : w.cell? ⟨b, o + 2, none⟩ = some (.int .i64 p)
  c3 : w.cell? ⟨b, o + 3, none⟩ = some (.int .i64 u)
  f0 : w.frozen? ⟨b, o, none⟩ = false
  f1 : w.frozen? ⟨b, o + 1, none⟩ = false
  f2 : w.frozen? ⟨b, o + 2, none⟩ = false
  f3 : w.frozen? ⟨b, o + 3, none⟩ = false
  mc : m ≤ c
  cm : c ≤ maxLen
  mP : m ≤ P
  sl : SL w lo 3 1 (.slice N m c) m
theorem Row.task {w : World} {lo rb P b k : Nat} (r : Row w lo b 35 (k * 4 + 4)) (hs : St lo rb P w) : ∃ t N m c p u, TC w lo P b (k * 4) t N m c p u := by
  obtain ⟨v0, h0, t0, f0⟩ := r.at_ hs.wt tT (i := k * 4) (by omega)
  obtain ⟨v1, h1, t1, f1⟩ := r.at_ hs.wt tT (i := k * 4 + 1) (by omega)
  obtain ⟨v2, h2, t2, f2⟩ := r.at_ hs.wt tT (i := k * 4 + 2) (by omega)
  obtain ⟨v3, h3, t3, f3⟩ := r.at_ hs.wt tT (i := k * 4 + 3) (by omega)
  obtain ⟨x0, rfl⟩ := t0.fld (by omega)
  obtain ⟨x2, rfl⟩ := t2.fld (by omega)
  obtain ⟨x3, rfl⟩ := t3.fld (by omega)
  obtain ⟨m, hm, hsl⟩ := t1.1 rfl (by omega)
  obtain ⟨N, c, rfl, hc, hcm, hsl⟩ := hsl.form
  exact ⟨x0, N, m, c, x2, x3, h0, h1, h2, h3, f0, f1, f2, f3, hc, hcm, hm, hsl⟩
/-- task k of a slice of tasks -/
theorem SL.task {w : World} {lo rb P n k : Nat} {A : Option Addr} {c : Nat} (h : SL w lo 35 4 (.slice A n c) n) (hs : St lo rb P w) (hk : k < n) :
    ∃ b o t N m cN p u, A = some ⟨b, o, none⟩ ∧ TC w lo P b (o + k * 4) t N m cN p u ∧ lo ≤ b ∧ Row w lo b 35 (o + k * 4 + 4) ∧ o % 4 = 0 := by
  obtain ⟨A', c', e, h1, h2, h3⟩ := h
  cases e
  rcases h3 with ⟨_, h3⟩ | ⟨b, o, rfl, hr⟩
  · omega
  · have hr' : Row w lo b 35 ((o + k) * 4 + 4) := hr.less (by omega)
    obtain ⟨t, N, m, cN, p, u, hT⟩ := hr'.task hs
    have e : (o + k) * 4 = o * 4 + k * 4 := by omega
    rw [e] at hT hr'
    exact ⟨b, o * 4, t, N, m, cN, p, u, rfl, hT, hr.1, hr', by omega⟩
theorem St.allocT {w : World} {lo rb P : Nat} (hs : St lo rb P w) (t : Int) (N : Option Addr) (m c : Nat) (p u : Int) (hm : m ≤ P) (hN : SL w lo 3 1 (.slice N m c) m) :
    St lo rb P (w.alloc (.cells #[.int .i64 t, .slice N m c, .int .i64 p, .int .i64 u] 35)) ∧ Fwd lo w (w.alloc (.cells #[.int .i64 t, .slice N m c, .int .i64 p, .int .i64 u] 35)) :=
  hs.alloc _ _ (by decide) fun s ht i v hv => by
    match i, hv with
    | 0, hv => simp at hv; subst hv; exact TY.num _ _ _ _ ⟨t, rfl⟩ (by decide)
    | 1, hv => simp at hv; subst hv; exact TY.sl hm hN (by decide)
    | 2, hv => simp at hv; subst hv; exact TY.num _ _ _ _ ⟨p, rfl⟩ (by decide)
    | 3, hv => simp at hv; subst hv; exact TY.num _ _ _ _ ⟨u, rfl⟩ (by decide)
    | i + 4, hv => simp at hv
/-- what lies in the cells of a slice -/
theorem SL.src {w : World} {lo rb P n : Nat} {t ts : TypeId} {s : Nat} {v : Value} (ht : Typ t s) (hu : Try.prog.underlying ts = some (.slice t)) (h : SL w lo t s v n) (hs : St lo rb P w) :
    ∃ news : List Value, Src Try.prog s ts v n news w ∧ ∀ j u, news[j]? = some u → TY w lo P t j u := by
  obtain ⟨A, c, rfl, h1, h2, h3⟩ := h
  rcases h3 with ⟨rfl, rfl⟩ | ⟨b, o, rfl, hlo, cs, hc, hm⟩
  · have : n = 0 := by omega
    subst this
    exact ⟨[], Src.ofNil w hu 0, fun j u hj => by simp at hj⟩
  · have hty : ∀ j u, ((cs.toList.drop (o * s)).take (n * s))[j]? = some u → TY w lo P t j u := by
      intro j u hj
      rw [List.getElem?_take] at hj
      split at hj
      · rw [List.getElem?_drop] at hj
        exact (hs.wt b cs t s ht hlo hc (o * s + j) u (by simpa using hj)).unshift ht
      · cases hj
    have hlen : o * s + n * s ≤ cs.size := by
      rw [← Nat.add_mul]
      exact Nat.le_trans (Nat.mul_le_mul_right _ (by omega)) hm
    refine ⟨(cs.toList.drop (o * s)).take (n * s), Src.ofSlice w hu ⟨b, o * s, none⟩ n c _ (by simp; omega) ?_ ?_, hty⟩
    · intro j u hj
      rw [List.getElem?_take] at hj
      split at hj
      · rw [List.getElem?_drop] at hj
        rw [Addr.add_lit, cell_of_row w b _ cs _ (0, 0) hc]
        simpa using hj
      · cases hj
    · intro u hu'
      obtain ⟨j, hj, e⟩ := List.mem_iff_getElem.1 hu'
      exact news_one (hty j u (by rw [List.getElem?_eq_getElem hj, e]))
theorem run_push_tasks {lo rb P : Nat} {w : World} {ty : TypeId} {v x : Value} {n m : Nat} (hs : St lo rb P w) (hv : SL w lo 35 4 v n) (hx : SL w lo 35 4 x m) (hm : n + m ≤ 1000000000) :
    ∃ v' w', (Builtin.append_ #[23, 23] ty #[v, x]).run Try.prog w = .ok v' w' ∧ SL w' lo 35 4 v' (n + m) ∧ St lo rb P w' ∧ Fwd lo w w' ∧ Keeps 35 w w' := by
  obtain ⟨i0, hi0, hz0, hz1, hz2⟩ := info_parts Try.infoTaskD
  obtain ⟨news, hsrc, hty⟩ := hx.src tT Try.underlying23 hs
  exact run_push tT Try.underlying23 hi0 hz0 hz1 hz2 (by omega) rfl (fun j hj => by
    match j, hj with
    | 0, _ => exact TY.num _ _ _ _ ⟨0, rfl⟩ (by decide)
    | 1, _ => exact TY.sl (Nat.zero_le _) SL.nilB (by decide)
    | 2, _ => exact TY.num _ _ _ _ ⟨0, rfl⟩ (by decide)
    | 3, _ => exact TY.num _ _ _ _ ⟨0, rfl⟩ (by decide)
    | j + 4, h => omega) hs hv hsrc hty hm
/-- 'append(g, ts...)' of tasks, in a walk -/
theorem push_tt {ops : Array Oper} {rest : List Oper} {o : Oper} {a : Act} {Q : Exit → Act → World → Prop} {w : World} (hgd : o.guard = none) (s x : Operand)
    (ho : o.op = .call { callee := .builtin .append, args := #[s, x], argTypes := #[23, 23] }) {lo rb P n m : Nat} (hs : St lo rb P w) (hv : SL w lo 35 4 (a.eval s) n) (hx : SL w lo 35 4 (a.eval x) m) (hm : n + m ≤ 1000000000)
    (h : ∀ A c w', n + m ≤ c → c ≤ maxLen → SL w' lo 35 4 (.slice A (n + m) c) (n + m) → St lo rb P w' → Fwd lo w w' → wpList Try.prog ops Q rest (a.put o.dst (.slice A (n + m) c)) w') : wpList Try.prog ops Q (o :: rest) a w := by
  refine wpList_plain hgd fun K hK => ?_
  obtain ⟨v', w', hr, h1, h2, h3, _⟩ := run_push_tasks (ty := o.type) hs hv hx hm
  obtain ⟨A, c, rfl, hnc, hcm, h1⟩ := h1.form
  unfold Oper.wp
  simp [execOp, ho, resolve, invoke, builtin, hr, Result.andThen]
  exact hK _ _ (h A c w' hnc hcm h1 h2 h3)
end Go.Proofs.Ytihgakbopkaemaa
namespace Go.Proofs.Ytihgakbopkaemaa
open Go.RowKit
theorem Keeps.blk {t t' : TypeId} {w w' : World} {g : Nat} {cs : Array Value} (h : Keeps t w w') (hb : Blk w g t' cs) (ht : t' ≠ t) : Blk w' g t' cs := h g t' cs ht hb
/-- what one needs of a slice that is collected -/
def Acc (lo rb P : Nat) (t : TypeId) (s : Nat) (W w : World) (A : Option Addr) (l c : Nat) : Prop := SL w lo t s (.slice A l c) l ∧ St lo rb P w ∧ Fwd lo W w
theorem Acc.one {lo rb P : Nat} {W w : World} {A : Option Addr} {l c : Nat} (h : Acc lo rb P 3 1 W w A l c) (q : Int) :
    Acc lo rb P 3 1 W (w.alloc (.cells #[.int .i64 q] 3)) A l c ∧ SL (w.alloc (.cells #[.int .i64 q] 3)) lo 3 1 (.slice (some ⟨w.heap.size, 0, none⟩) 1 1) 1 := by
  obtain ⟨s1, f1⟩ := h.2.1.allocI #[.int .i64 q] (by simp [IsI])
  exact ⟨⟨h.1.ext tI f1.2, s1, h.2.2.trans f1⟩, SL.fresh h.2.1.le #[.int .i64 q] (by simp) (by decide)⟩
theorem Acc.task {lo rb P : Nat} {W w : World} {A : Option Addr} {l c : Nat} (h : Acc lo rb P 35 4 W w A l c) (t : Int) (N : Option Addr) (m cN : Nat) (p u : Int) (hm : m ≤ P) (hN : SL w lo 3 1 (.slice N m cN) m) {g : Nat} (hg : w.heap.size = g) :
    Acc lo rb P 35 4 W (w.alloc (.cells #[.int .i64 t, .slice N m cN, .int .i64 p, .int .i64 u] 35)) A l c ∧ SL (w.alloc (.cells #[.int .i64 t, .slice N m cN, .int .i64 p, .int .i64 u] 35)) lo 35 4 (.slice (some ⟨g, 0, none⟩) 1 1) 1 := by
  subst hg
  obtain ⟨s1, f1⟩ := h.2.1.allocT t N m cN p u hm hN
  exact ⟨⟨h.1.ext tT f1.2, s1, h.2.2.trans f1⟩, SL.fresh h.2.1.le #[.int .i64 t, .slice N m cN, .int .i64 p, .int .i64 u] (by simp) (by decide)⟩
theorem Blk.row {w : World} {g : Nat} {t : TypeId} {cs : Array Value} (h : Blk w g t cs) {lo m : Nat} (hl : lo ≤ g) (hm : m ≤ cs.size) : Row w lo g t m := ⟨hl, cs, h, hm⟩
set_option maxHeartbeats 3200000 in
theorem turned_any (v : Value) (n lo rb P : Nat) (w : World) (hs : St lo rb P w) (hP : P ≤ 1000000) (hv : SL w lo 35 4 v n) (hn : n ≤ 1000000) :
    Calls Try.prog 99 #[v] w (SlR lo rb P n 35 4 w) := by
  obtain ⟨A, c, rfl, hnc, hcm, hv⟩ := hv.form
  have HV := Lib.hid hv
  have HS := Lib.hid hs
  clear hs hv
  obtain ⟨WO, rfl⟩ : ∃ WO, WO = w := ⟨_, rfl⟩
  go_enter Try.func99, Try.ntmps99
  go_wp2
  obtain ⟨s0, f0⟩ := HS.out.alloc 35 #[] (by decide) (by simp)
  have hA0 := Lib.hid (show Acc lo rb P 35 4 WO (WO.alloc (.cells #[] 35)) (some ⟨WO.heap.size, 0, none⟩) 0 0 from ⟨SL.fresh HS.out.le #[] (by simp) (Nat.zero_le _), s0, f0⟩)
  clear s0 f0
  go_loopw [3, 5] (fun v i wr => ∃ (z : Int) (l : Nat) (A' : Option Addr) (c' : Nat), v = .slice A' l c' ∧ i = .int .i64 z ∧ -1 ≤ z ∧ (l : Int) + z + 1 = n ∧ l ≤ c' ∧ c' ≤ maxLen ∧ Hid (Acc lo rb P 35 4 WO wr A' l c')) (fun _ i _ => (intOf i + 1).toNat)
  case atStart => exact ⟨(n : Int) - 1, 0, _, 0, rfl, rfl, by omega, by omega, Nat.le_refl _, Nat.zero_le _, hA0⟩
  case round =>
    obtain ⟨z, l, A', c', rfl, rfl, hz, hlk, hnc', hcm', hh⟩ := hrel
    by_cases hk0 : z < 0
    · obtain rfl : z = -1 := by omega
      obtain rfl : l = n := by omega
      go_wp2
      go_ret
      exact ⟨⟨_, rfl, hh.out.1⟩, hh.out.2⟩
    · obtain ⟨i, rfl⟩ : ∃ i : Nat, z = (i : Int) := ⟨z.toNat, by omega⟩
      clear hk0 hz
      obtain ⟨b, o, t, N, m, cN, p, u, rfl, hT, hlb, hrow, ho⟩ := (HV.out.ext tT hh.out.2.2.2).task hh.out.2.1 (show i < n by omega)
      obtain ⟨q0, q1, q2, q3, g0, g1, g2, g3, hmc, hcmN, hmP, hsl⟩ := hT
      obtain ⟨s1, f1⟩ := hh.out.2.1.allocT t N m cN p u hmP hsl
      obtain ⟨s2, f2⟩ := s1.allocI #[] (by simp)
      have HSL := Lib.hid ((hsl.ext tI f1.2).ext tI f2.2)
      have HF := Lib.hid (hh.out.2.2.trans (f1.trans f2))
      have HO := Lib.hid ((hh.out.1.ext tT f1.2).ext tT f2.2)
      have hA := Lib.hid (show Acc lo rb P 3 1 ((wr.alloc (.cells #[.int .i64 t, .slice N m cN, .int .i64 p, .int .i64 u] 35)).alloc (.cells #[] 3)) ((wr.alloc (.cells #[.int .i64 t, .slice N m cN, .int .i64 p, .int .i64 u] 35)).alloc (.cells #[] 3)) (some ⟨wr.heap.size + 1, 0, none⟩) 0 0 from
        ⟨by have := SL.fresh (w := wr.alloc (.cells #[.int .i64 t, .slice N m cN, .int .i64 p, .int .i64 u] 35)) (t := 3) (s := 1) s1.le #[] (n := 0) (by simp) (Nat.zero_le _); simpa using this, s2, Fwd.refl _ _⟩)
      have hB := Lib.hid (show Blk ((wr.alloc (.cells #[.int .i64 t, .slice N m cN, .int .i64 p, .int .i64 u] 35)).alloc (.cells #[] 3)) wr.heap.size 35 #[.int .i64 t, .slice N m cN, .int .i64 p, .int .i64 u] from (Blk.new wr _ _).alloc _)
      have hlw := Nat.le_trans hh.out.2.1.le (Nat.le_refl _)
      clear s1 f1 s2 f2 hsl hrow
      go_wp2
      obtain ⟨W1, rfl⟩ : ∃ W1, W1 = wr := ⟨_, rfl⟩
      generalize hW2 : ((W1.alloc (.cells #[.int .i64 t, .slice N m cN, .int .i64 p, .int .i64 u] 35)).alloc (.cells #[] 3)) = W2 at *
      clear hW2
      go_loopw [7, 8] (fun v i wr => ∃ (j y : Nat) (A2 : Option Addr) (c2 : Nat), v = .slice A2 y c2 ∧ i = .int .i64 ((j : Int) - 1) ∧ y + j = m ∧ y ≤ c2 ∧ c2 ≤ maxLen ∧ Hid (Acc lo rb P 3 1 W2 wr A2 y c2) ∧ Hid (Blk wr W1.heap.size 35 #[.int .i64 t, .slice N m cN, .int .i64 p, .int .i64 u])) (fun _ i _ => (intOf i + 1).toNat)
      case atStart => exact ⟨m, 0, _, 0, rfl, rfl, Nat.zero_add _, Nat.le_refl _, Nat.zero_le _, hA, hB⟩
      case round =>
        obtain ⟨j, y, A2, c2, rfl, rfl, hyj, hyc, hc2, hh2, hB2⟩ := hrel
        have k0 : wr.cell? ⟨W1.heap.size, 0, none⟩ = some (.int .i64 t) := by rw [hB2.out.cell]; rfl
        have k1 : wr.cell? ⟨W1.heap.size, 1, none⟩ = some (.slice N m cN) := by rw [hB2.out.cell]; rfl
        have k2 : wr.cell? ⟨W1.heap.size, 2, none⟩ = some (.int .i64 p) := by rw [hB2.out.cell]; rfl
        have k3 : wr.cell? ⟨W1.heap.size, 3, none⟩ = some (.int .i64 u) := by rw [hB2.out.cell]; rfl
        have kf := hB2.out.frozen 1
        by_cases hj0 : j = 0
        · subst hj0
          obtain rfl : y = m := by omega
          obtain ⟨s3, f3⟩ := hh2.out.2.1.set_ (u := .slice A2 y c2) (i := 1) (hB2.out.row (m := 4) hlw (by simp)) tT (TY.sl hmP hh2.out.1 (by decide))
          have hA3 : Acc lo rb P 35 4 WO (wr.setCell ⟨W1.heap.size, 1, none⟩ (.slice A2 y c2)) A' l c' := ⟨(HO.out.ext tT hh2.out.2.2.2).ext tT f3.2, s3, HF.out.trans (hh2.out.2.2.trans f3)⟩
          have HA4 := Lib.hid (hA3.task t A2 y c2 p u hmP (hh2.out.1.ext tI f3.2) (g := wr.heap.size) (by simp [World.setCell]))
          clear s3 f3 hA3
          go_wp2_with (at_builtin; refine push_tt rfl _ _ rfl HA4.out.1.2.1 HA4.out.1.1 HA4.out.2 (by omega) ?_; intro A5 c5 w5 hnc5 hcm5 hv5 hs5 hf5)
          have HA5 := Lib.hid (show Acc lo rb P 35 4 WO w5 A5 (l + 1) c5 from ⟨hv5, hs5, HA4.out.1.2.2.trans hf5⟩)
          clear hv5 hs5 hf5
          go_wp2
          go_roundw
          case rel => exact ⟨(i : Int) - 1, l + 1, A5, c5, rfl, by go_num, by omega, by omega, hnc5, hcm5, HA5⟩
          case measure => simp [intOf]
        · obtain ⟨j, rfl⟩ : ∃ i, j = i + 1 := ⟨j - 1, by omega⟩
          obtain ⟨b2, o2, x, rfl, hx, _, _, _⟩ := (HSL.out.ext tI hh2.out.2.2.2).cell hh2.out.2.1 (show j < m by omega)
          have HA3 := fun q => Lib.hid (hh2.out.one q)
          go_wp2_with (at_builtin; refine push_ti rfl _ _ rfl (HA3 _).out.1.2.1 (HA3 _).out.1.1 (HA3 _).out.2 (by omega) ?_; intro A5 c5 w5 hnc5 hcm5 hv5 hs5 hf5 hk5)
          have HB5 := Lib.hid (hk5.blk (hB2.out.alloc _) (by decide))
          have HA5 := Lib.hid (show Acc lo rb P 3 1 W2 w5 A5 (y + 1) c5 from ⟨hv5, hs5, (HA3 _).out.1.2.2.trans hf5⟩)
          clear hv5 hs5 hf5 hk5
          go_wp2
          go_roundw
          case rel => exact ⟨j, y + 1, A5, c5, rfl, by go_num, by omega, hnc5, hcm5, HA5, HB5⟩
          case measure => simp [intOf]
end Go.Proofs.Ytihgakbopkaemaa
namespace Go.Proofs.Ytihgakbopkaemaa
open Go.RowKit
/-- a graph of at most m tasks that is handed back -/
def GrR (lo rb P m : Nat) (w : World) (e : Ending) (w' : World) : Prop := (∃ v n, n ≤ m ∧ e = .returned v ∧ SL w' lo 35 4 v n) ∧ St lo rb P w' ∧ Fwd lo w w'
theorem Row.task0 {w : World} {lo rb P b : Nat} (r : Row w lo b 35 4) (hs : St lo rb P w) : ∃ t N m c p u, TC w lo P b 0 t N m c p u := by
  have := Row.task (k := 0) r hs
  simpa using this
/-- the state of the loop over needs -/
def InN (lo rb P b : Nat) (W w : World) : Prop := St lo rb P w ∧ Fwd lo W w ∧ Row w lo b 35 4
theorem InN.one {lo rb P b : Nat} {W w : World} (h : InN lo rb P b W w) (q : Int) {N : Option Addr} {m c : Nat} (hN : SL w lo 3 1 (.slice N m c) m) :
    InN lo rb P b W (w.alloc (.cells #[.int .i64 q] 3)) ∧ SL (w.alloc (.cells #[.int .i64 q] 3)) lo 3 1 (.slice (some ⟨w.heap.size, 0, none⟩) 1 1) 1 ∧ SL (w.alloc (.cells #[.int .i64 q] 3)) lo 3 1 (.slice N m c) m := by
  obtain ⟨s1, f1⟩ := h.1.allocI #[.int .i64 q] (by simp [IsI])
  exact ⟨⟨s1, h.2.1.trans f1, f1.2 _ _ _ _ tT h.2.2⟩, SL.fresh h.1.le #[.int .i64 q] (by simp) (by decide), hN.ext tI f1.2⟩
theorem InN.next {lo rb P b : Nat} {W w w8 : World} {N : Option Addr} {m c : Nat} (h : InN lo rb P b W w) (hv : SL w8 lo 3 1 (.slice N m c) m) (hs : St lo rb P w8) (hf : Fwd lo w w8) (hm : m ≤ P) :
    (∃ v, w8.cell? ⟨b, 1, none⟩ = some v ∧ w8.frozen? ⟨b, 1, none⟩ = false) ∧ Hid (InN lo rb P b W (w8.setCell ⟨b, 1, none⟩ (.slice N m c))) := by
  have hr := hf.2 _ _ _ _ tT h.2.2
  obtain ⟨v, h1, _, h3⟩ := hr.at_ hs.wt tT (i := 1) (by omega)
  obtain ⟨s9, f9⟩ := hs.set_ (u := .slice N m c) (i := 1) hr tT (TY.sl hm hv (by decide))
  exact ⟨⟨v, h1, h3⟩, s9, h.2.1.trans (hf.trans f9), f9.2 _ _ _ _ tT hr⟩
set_option maxHeartbeats 6400000 in
theorem someGraph_any (most lo rb P : Nat) (w : World) (hs : St lo rb P w) (hP : P ≤ 800000) (hm : most ≤ 8) :
    Calls Try.prog 78 #[.pointer (some ⟨rb, 0, none⟩), .int .i64 most] w (GrR lo rb (P + 300) most w) := by
  obtain ⟨s0, f0⟩ := hs.alloc 35 #[] (by decide) (by simp)
  have HS0 := Lib.hid (show Acc lo rb P 35 4 w (w.alloc (.cells #[] 35)) (some ⟨w.heap.size, 0, none⟩) 0 0 from ⟨SL.fresh hs.le #[] (by simp) (Nat.zero_le _), s0, f0⟩)
  have C1 := Lib.hid (one_new #[.int .i64 4, .int .i64 5, .int .i64 3, .int .i64 6, .int .i64 2, .int .i64 1, .int .i64 0, .int .i64 8] 8 lo rb P _ s0 (by omega) (by simp [IsI]) rfl (by omega) (by omega) (g := w.heap.size + 1) (by simp))
  clear hs s0 f0
  obtain ⟨WO, rfl⟩ : ∃ WO, WO = w := ⟨_, rfl⟩
  go_enter Try.func78, Try.ntmps78
  go_wp2_with fail
  refine (C1.out).mono ?_
  rintro e w1 ⟨⟨x, rfl⟩, hs1, hf1, _⟩
  have HA := Lib.hid (show Acc lo rb (P + 1) 35 4 WO w1 (some ⟨WO.heap.size, 0, none⟩) 0 0 from ⟨HS0.out.1.ext tT hf1.2, hs1, HS0.out.2.2.trans hf1⟩)
  clear HS0 C1 hs1 hf1
  go_wp2
  all_goals
    go_loopw [5, 6] (fun v nn wr => ∃ (z : Int) (l : Nat) (A' : Option Addr) (c' : Nat), v = .slice A' l c' ∧ nn = .int .i64 z ∧ (l : Int) + z ≤ most ∧ l ≤ most ∧ l ≤ c' ∧ c' ≤ maxLen ∧ Hid (Acc lo rb (P + 1 + l * 30) 35 4 WO wr A' l c')) (fun _ nn _ => (intOf nn).toNat)
    case atStart => exact ⟨_, 0, _, 0, rfl, rfl, by omega, Nat.zero_le _, Nat.zero_le _, Nat.zero_le _, HA⟩
    case round =>
      clear HA
      obtain ⟨z, l, A', c', rfl, rfl, hz, hlm, hlc, hcm, hh⟩ := hrel
      by_cases hz0 : z ≤ 0
      · by_cases hl1 : 1 < l
        · have C1 := Lib.hid (pick_any 4 lo rb (P + 1 + l * 30) wr hh.out.2.1 (by omega) (by omega))
          go_wp2_with fail
          refine (C1.out).mono ?_
          rintro e w6 ⟨⟨k, rfl, _, _⟩, hs6, hf6, _⟩
          have hA6 : Acc lo rb (P + 300) 35 4 WO w6 A' l c' := ⟨hh.out.1.ext tT hf6.2, hs6.more (by omega), hh.out.2.2.trans hf6⟩
          clear hs6 hf6 C1
          have C2 := Lib.hid (turned_any _ l lo rb (P + 300) w6 hA6.2.1 (by omega) hA6.1 (by omega))
          have HA6 := Lib.hid hA6
          clear hA6
          by_cases hk0 : k = 0
          · subst hk0
            go_wp2_with fail
            refine (C2.out).mono ?_
            rintro e w7 ⟨⟨v7, rfl, hv7⟩, hs7, hf7⟩
            go_wp2
            go_ret
            exact ⟨⟨_, l, hlm, rfl, hv7⟩, hs7, HA6.out.2.2.trans hf7⟩
          · go_wp2
            go_ret
            exact ⟨⟨_, l, hlm, rfl, HA6.out.1⟩, HA6.out.2.1, HA6.out.2.2⟩
        · go_wp2
          go_ret
          exact ⟨⟨_, l, hlm, rfl, hh.out.1⟩, hh.out.2.1.more (by omega), hh.out.2.2⟩
      · obtain ⟨W0, rfl⟩ : ∃ W0, W0 = wr := ⟨_, rfl⟩
        have C1 := Lib.hid (one_new #[.int .i64 1, .int .i64 3, .int .i64 5, .int .i64 2, .int .i64 7, .int .i64 20] 6 lo rb (P + 1 + l * 30) W0 hh.out.2.1 (by omega) (by simp [IsI]) rfl (by omega) (by omega) rfl)
        go_wp2_with fail
        refine (C1.out).mono ?_
        rintro e w1 ⟨⟨t, rfl⟩, hs1, hf1, _⟩
        have C2 := Lib.hid (pick_any 3 lo rb (P + 1 + l * 30 + 1) w1 hs1 (by omega) (by omega))
        go_wp2_with fail
        refine (C2.out).mono ?_
        rintro e w2 ⟨⟨p, rfl, hp, _⟩, hs2, hf2, _⟩
        have C3 := Lib.hid (pick_any 4 lo rb (P + 1 + l * 30 + 2) w2 hs2 (by omega) (by omega))
        go_wp2_with fail
        refine (C3.out).mono ?_
        rintro e w3 ⟨⟨u, rfl, hu, _⟩, hs3, hf3, _⟩
        obtain ⟨s4, f4⟩ := hs3.allocI #[] (by simp)
        have hu := hu (by omega)
        obtain ⟨s5, f5⟩ := s4.allocT t (some ⟨w3.heap.size, 0, none⟩) 0 0 p (1 + u) (Nat.zero_le _) (SL.fresh hs3.le #[] (by simp) (Nat.zero_le _))
        have hF := hf1.trans (hf2.trans (hf3.trans (f4.trans f5)))
        have HA1 := Lib.hid (show Acc lo rb (P + 1 + l * 30 + 3) 35 4 WO _ A' l c' from ⟨hh.out.1.ext tT hF.2, s5, hh.out.2.2.trans hF⟩)
        have hB := Blk.new (w3.alloc (.cells #[] 3)) 35 #[.int .i64 t, .slice (some ⟨w3.heap.size, 0, none⟩) 0 0, .int .i64 p, .int .i64 (1 + u)]
        rw [World.size_alloc] at hB
        have hR := Lib.hid (hB.row (lo := lo) (m := 4) (by have := s4.le; simpa using this) (by simp))
        clear hB
        clear hF C1 C2 C3 hs1 hf1 hs2 hf2 hs3 hf3 s4 f4 s5 f5
        go_wp2
        generalize hW5 : ((w3.alloc (.cells #[] 3)).alloc (.cells #[.int .i64 t, .slice (some ⟨w3.heap.size, 0, none⟩) 0 0, .int .i64 p, .int .i64 (1 + u)] 35)) = W5 at *
        generalize w3.heap.size + 1 = b7 at *
        clear hW5
        have hI := Lib.hid (show InN lo rb (P + 1 + l * 30 + 3 + 2 * 0) b7 W5 W5 from ⟨HA1.out.2.1, Fwd.refl _ _, hR.out⟩)
        go_loopw [8] (fun i wr => ∃ j : Nat, i = .int .i64 j ∧ j ≤ l ∧ Hid (InN lo rb (P + 1 + l * 30 + 3 + 2 * j) b7 W5 wr)) (fun i _ => l - (intOf i).toNat)
        case atStart => exact ⟨0, rfl, Nat.zero_le _, hI⟩
        case round =>
          clear hI
          obtain ⟨j, rfl, hj, hi⟩ := hrel
          by_cases hjl : j < l
          · have C1 := Lib.hid (pick_any 3 lo rb (P + 1 + l * 30 + 3 + 2 * j) wr hi.out.1 (by omega) (by omega))
            go_wp2_with fail
            refine (C1.out).mono ?_
            rintro e w6 ⟨⟨k, rfl, _, _⟩, hs6, hf6, _⟩
            have hI6 := Lib.hid (show InN lo rb (P + 1 + l * 30 + 3 + 2 * (j + 1)) b7 W5 w6 from ⟨hs6.more (by omega), hi.out.2.1.trans hf6, hf6.2 _ _ _ _ tT hi.out.2.2⟩)
            obtain ⟨t2, N2, m2, c2, p2, u2, hT⟩ := hI6.out.2.2.task0 hs6
            obtain ⟨q0, q1, q2, q3, g0, g1, g2, g3, hmc, hcmN, hmP, hsl⟩ := hT
            replace q1 : w6.cell? ⟨b7, 1, none⟩ = some (.slice N2 m2 c2) := q1
            replace g1 : w6.frozen? ⟨b7, 1, none⟩ = false := g1
            clear hs6 hf6 C1 q0 q2 q3 g0 g2 g3
            by_cases hk0 : k = 0
            · subst hk0
              have HI7 := Lib.hid (hI6.out.one (j : Int) hsl)
              clear hsl
              go_wp2_with (at_builtin; refine push_ti rfl _ _ rfl HI7.out.1.1 HI7.out.2.2 HI7.out.2.1 (by omega) ?_; intro A8 c8 w8 hnc8 hcm8 hv8 hs8 hf8 _; obtain ⟨⟨v8, q8, g8⟩, HI9⟩ := InN.next HI7.out.1 hv8 hs8 hf8 (by omega); clear hv8 hs8 hf8)
              go_roundw
              case rel => exact ⟨j + 1, by go_num, by omega, HI9⟩
              case measure => simp [intOf]; omega
            · go_wp2
              go_roundw
              case rel => exact ⟨j + 1, by go_num, by omega, hI6⟩
              case measure => simp [intOf]; omega
          · have hT0 := hi.out.2.2.task0 hi.out.1
            obtain ⟨t2, N2, m2, c2, p2, u2, hT⟩ := hT0
            obtain ⟨q0, q1, q2, q3, g0, g1, g2, g3, hmc, hcmN, hmP, hsl⟩ := hT
            replace q1 : wr.cell? ⟨b7, 1, none⟩ = some (.slice N2 m2 c2) := q1
            replace q2 : wr.cell? ⟨b7, 2, none⟩ = some (.int .i64 p2) := q2
            replace q3 : wr.cell? ⟨b7, 3, none⟩ = some (.int .i64 u2) := q3
            have hA7 : Acc lo rb (P + 1 + l * 30 + 3 + 2 * j) 35 4 WO wr A' l c' := ⟨HA1.out.1.ext tT hi.out.2.1.2, hi.out.1, HA1.out.2.2.trans hi.out.2.1⟩
            have HA8 := Lib.hid (hA7.task t2 N2 m2 c2 p2 u2 hmP hsl rfl)
            clear hA7 hsl g0 g1 g2 g3
            go_wp2_with (at_builtin; refine push_tt rfl _ _ rfl HA8.out.1.2.1 HA8.out.1.1 HA8.out.2 (by omega) ?_; intro A9 c9 w9 hnc9 hcm9 hv9 hs9 hf9)
            have HA9 := Lib.hid (show Acc lo rb (P + 1 + (l + 1) * 30) 35 4 WO w9 A9 (l + 1) c9 from ⟨hv9, hs9.more (by omega), HA8.out.1.2.2.trans hf9⟩)
            clear hv9 hs9 hf9
            go_wp2
            refine ⟨⟨z - 1, l + 1, A9, c9, rfl, rfl, by omega, by omega, hnc9, hcm9, HA9⟩, ?_⟩
            show (z - 1).toNat < z.toNat
            omega
end Go.Proofs.Ytihgakbopkaemaa
namespace Go.Proofs.Ytihgakbopkaemaa
open Go.RowKit
theorem step_push_ti {ops : Array Oper} {o : Oper} {a : Act} {w : World} {K : Act → World → Prop} {Q : Exit → Act → World → Prop} {E : Prop} (hgd : o.guard = none) (s x : Operand)
    (ho : o.op = .call { callee := .builtin .append, args := #[s, x], argTypes := #[24, 24] }) {lo rb P n m : Nat} (hs : St lo rb P w) (hv : SL w lo 3 1 (a.eval s) n) (hx : SL w lo 3 1 (a.eval x) m) (hm : n + m ≤ 1000000000)
    (h : ∀ A c w', n + m ≤ c → c ≤ maxLen → SL w' lo 3 1 (.slice A (n + m) c) (n + m) → St lo rb P w' → Fwd lo w w' → Keeps 3 w w' → K (a.put o.dst (.slice A (n + m) c)) w') :
    if Region.wanted o (yielded ops a.tmps) = true then Oper.wp Try.prog o a w K Q else E := by
  have hw : Region.wanted o (yielded ops a.tmps) = true := by simp [Region.wanted, hgd]
  rw [if_pos hw]
  obtain ⟨v', w', hr, h1, h2, h3, h4⟩ := run_push_ints (ty := o.type) hs hv hx hm
  obtain ⟨A, c, rfl, hnc, hcm, h1⟩ := h1.form
  unfold Oper.wp
  simp [execOp, ho, resolve, invoke, builtin, hr, Result.andThen]
  exact h A c w' hnc hcm h1 h2 h3 h4
/-- the state in which a graph lies -/
theorem Acc.pick {lo rb P P' : Nat} {W w w' : World} {A : Option Addr} {l c : Nat} (h : Acc lo rb P 35 4 W w A l c) (hs : St lo rb P' w') (hf : Fwd lo w w') : Acc lo rb P' 35 4 W w' A l c :=
  ⟨h.1.ext tT hf.2, hs, h.2.2.trans hf⟩
theorem hold_of {w w' : World} {lo b m i : Nat} {v : Value} (h : KT w w') (r : Row w lo b 35 m) (hc : w.cell? ⟨b, i, none⟩ = some v) : w'.cell? ⟨b, i, none⟩ = some v ∧ w'.frozen? ⟨b, i, none⟩ = false :=
  ⟨(h.cell r).1.trans hc, (h.cell r).2⟩
theorem one_more {lo rb P m c : Nat} {N : Option Addr} {w : World} (hs : St lo rb P w) (hN : SL w lo 3 1 (.slice N m c) m) (q : Int) :
    St lo rb P (w.alloc (.cells #[.int .i64 q] 3)) ∧ Fwd lo w (w.alloc (.cells #[.int .i64 q] 3)) ∧ SL (w.alloc (.cells #[.int .i64 q] 3)) lo 3 1 (.slice N m c) m ∧ SL (w.alloc (.cells #[.int .i64 q] 3)) lo 3 1 (.slice (some ⟨w.heap.size, 0, none⟩) 1 1) 1 := by
  obtain ⟨s1, f1⟩ := hs.allocI #[.int .i64 q] (by simp [IsI])
  exact ⟨s1, f1, hN.ext tI f1.2, SL.fresh hs.le #[.int .i64 q] (by simp) (by decide)⟩
set_option maxRecDepth 20000 in
set_option maxHeartbeats 6400000 in
theorem anyGraph_any (lo rb P : Nat) (w : World) (hs : St lo rb P w) (hP : P ≤ 700000) :
    Calls Try.prog 40 #[.pointer (some ⟨rb, 0, none⟩)] w (GrR lo rb (P + 1000) 16 w) := by
  have C1 := Lib.hid (someGraph_any 8 lo rb P w hs (by omega) (by omega))
  clear hs
  obtain ⟨WO, rfl⟩ : ∃ WO, WO = w := ⟨_, rfl⟩
  go_enter Try.func40, Try.ntmps40
  go_wp2_with fail
  refine (C1.out).mono ?_
  rintro e w1 ⟨⟨v1, n, hn, rfl, hv1⟩, hs1, hf1⟩
  obtain ⟨A, c, rfl, hnc, hcm, hv1⟩ := hv1.form
  have HA := Lib.hid (show Acc lo rb (P + 300) 35 4 WO w1 A n c from ⟨hv1, hs1, hf1⟩)
  clear C1 hv1 hs1 hf1
  by_cases hn0 : n = 0
  · have HA := Lib.hid (show Acc lo rb (P + 300) 35 4 WO w1 A 0 c from hn0 ▸ HA.out)
    go_wp2
    go_ret
    exact ⟨⟨_, _, Nat.zero_le _, rfl, HA.out.1⟩, HA.out.2.1.more (by omega), HA.out.2.2⟩
  · have C1 := Lib.hid (pick_any n lo rb (P + 300) w1 HA.out.2.1 (by omega) (by omega))
    go_wp2_with fail
    refine (C1.out).mono ?_
    rintro e w2 ⟨⟨k, rfl, hk, _⟩, hs2, hf2, _⟩
    have hk := hk (by omega)
    have HA := Lib.hid (HA.out.pick hs2 hf2)
    clear C1 hs2 hf2
    have C1 := Lib.hid (pick_any 24 lo rb (P + 300 + 1) w2 HA.out.2.1 (by omega) (by omega))
    go_wp2_with fail
    refine (C1.out).mono ?_
    rintro e w3 ⟨⟨q, rfl, _, _⟩, hs3, hf3, _⟩
    have HA := Lib.hid (HA.out.pick hs3 hf3)
    clear C1 hs3 hf3
    by_cases q0 : q = 0
    · subst q0
      have C1 := Lib.hid (one_new #[.int .i64 0, .int .i64 21, .int .i64 20] 3 lo rb (P + 302) w3 HA.out.2.1 (by omega) (by simp [IsI]) rfl (by omega) (by omega) rfl)
      go_wp2_with fail
      refine (C1.out).mono ?_
      rintro e w4 ⟨⟨x, rfl⟩, hs4, hf4, _⟩
      have hA := HA.out.pick hs4 hf4
      obtain ⟨b, o, t, N, m, cN, p, u, rfl, hT, hlb, hrow, ho⟩ := hA.1.task hs4 hk
      obtain ⟨k0, k1, k2, k3, f0, f1, f2, f3, _, _, _, _⟩ := hT
      obtain ⟨s5, f5⟩ := hs4.set_ (u := .int .i64 x) (i := o + k * 4) hrow tT (TY.num _ _ _ _ ⟨x, rfl⟩ (by omega))
      have HA := Lib.hid (hA.pick s5 f5)
      clear hs4 hf4 hA s5 f5 hrow C1
      go_wp2
      go_ret
      exact ⟨⟨_, n, by omega, rfl, HA.out.1⟩, HA.out.2.1.more (by omega), HA.out.2.2⟩
    · by_cases q1 : q = 1
      · subst q1
        obtain ⟨b, o, t, N, m, cN, p, u, rfl, hT, hlb, hrow, ho⟩ := HA.out.1.task HA.out.2.1 hk
        obtain ⟨k0, k1, k2, k3, f0, f1, f2, f3, hmc, hcmN, hmP, hsl⟩ := hT
        have HR := Lib.hid hrow
        have HSL := Lib.hid hsl
        clear hrow hsl k0 k2 k3 f0 f2 f3
        have C1 := fun i => Lib.hid (pick_any n lo rb (P + 302) (w3.drewN i) (HA.out.2.1.drewN i).1 (by omega) (by omega))
        go_wp2
        go_region_law
          (first | (go_simp; go_at_call 42; refine (C1 1).out.mono ?_; rintro e w4 ⟨⟨q, rfl, _, _⟩, hs4, hf4, ht4⟩; have c4 := hold_of ((KT.drewN w3 1).trans ht4) HR.out k1; have c4a := fun ob => hold_of (((KT.drewN w3 1).trans ht4).trans (KT.alloc w4 ob)) HR.out k1; have HF4 := Lib.hid ((HA.out.2.1.drewN 1).2.trans hf4); have HK4 := Lib.hid ((KT.drewN w3 1).trans ht4); have H5 := Lib.hid (one_more hs4 (HSL.out.ext tI ((HA.out.2.1.drewN 1).2.trans hf4).2) (q : Int)); clear hs4 hf4 ht4) | (refine step_push_ti rfl _ _ rfl H5.out.1 H5.out.2.2.1 H5.out.2.2.2 (by omega) ?_; intro A5 c5 w5 hnc5 hcm5 hv5 hs5 hf5 hk5; have c5 := hold_of (HK4.out.trans ((KT.alloc w4 _).trans (hk5.kt (by decide)))) HR.out k1; have HK5 := Lib.hid (HK4.out.trans ((KT.alloc w4 _).trans (hk5.kt (by decide)))); have HF5 := Lib.hid (HF4.out.trans (H5.out.2.1.trans hf5)); have C2 := Lib.hid (spoil_any _ (m + 1) lo rb (P + 303) 8 w5 hs5 (by omega) hv5 (by omega)); clear hk5 hf5 hs5 hv5) | (go_simp; go_at_call 79; refine C2.out.mono ?_; rintro e w6 ⟨⟨v6, n6, hn6, rfl, hv6⟩, hs6, hf6, ht6⟩; have c6 := hold_of (HK5.out.trans ht6) HR.out k1; have HF6 := Lib.hid (HF5.out.trans hf6); have HS6 := Lib.hid hs6; obtain ⟨A6, c6', rfl, hnc6, hcm6, hv6⟩ := hv6.form; have HV6 := Lib.hid hv6; clear hs6 hf6 ht6 hv6))
        all_goals
          have hr6 := HF6.out.2 _ _ _ _ tT HR.out
          obtain ⟨s7, f7⟩ := HS6.out.set_ (u := .slice A6 n6 c6') (i := o + k * 4 + 1) hr6 tT (TY.sl (by omega) HV6.out (by omega))
          have HA7 := Lib.hid (HA.out.pick s7 (HF6.out.trans f7))
          clear s7 f7 hr6
          go_wp2
          go_ret
          exact ⟨⟨_, n, by omega, rfl, HA7.out.1⟩, HA7.out.2.1.more (by omega), HA7.out.2.2⟩
      · by_cases q2 : q = 2
        · subst q2
          have C1 := Lib.hid (one_new #[.int .i64 (-1), .int .i64 3] 2 lo rb (P + 302) w3 HA.out.2.1 (by omega) (by simp [IsI]) rfl (by omega) (by omega) rfl)
          go_wp2_with fail
          refine (C1.out).mono ?_
          rintro e w4 ⟨⟨x, rfl⟩, hs4, hf4, _⟩
          have hA := HA.out.pick hs4 hf4
          obtain ⟨b, o, t, N, m, cN, p, u, rfl, hT, hlb, hrow, ho⟩ := hA.1.task hs4 hk
          obtain ⟨k0, k1, k2, k3, f0, f1, f2, f3, _, _, _, _⟩ := hT
          obtain ⟨s5, f5⟩ := hs4.set_ (u := .int .i64 x) (i := o + k * 4 + 2) hrow tT (TY.num _ _ _ _ ⟨x, rfl⟩ (by omega))
          have HA := Lib.hid (hA.pick s5 f5)
          clear hs4 hf4 hA s5 f5 hrow C1
          go_wp2
          go_ret
          exact ⟨⟨_, n, by omega, rfl, HA.out.1⟩, HA.out.2.1.more (by omega), HA.out.2.2⟩
        · by_cases q3 : q = 3
          · subst q3
            have C1 := Lib.hid (one_new #[.int .i64 0, .int .i64 5] 2 lo rb (P + 302) w3 HA.out.2.1 (by omega) (by simp [IsI]) rfl (by omega) (by omega) rfl)
            go_wp2_with fail
            refine (C1.out).mono ?_
            rintro e w4 ⟨⟨x, rfl⟩, hs4, hf4, _⟩
            have hA := HA.out.pick hs4 hf4
            obtain ⟨b, o, t, N, m, cN, p, u, rfl, hT, hlb, hrow, ho⟩ := hA.1.task hs4 hk
            obtain ⟨k0, k1, k2, k3, f0, f1, f2, f3, _, _, _, _⟩ := hT
            obtain ⟨s5, f5⟩ := hs4.set_ (u := .int .i64 x) (i := o + k * 4 + 3) hrow tT (TY.num _ _ _ _ ⟨x, rfl⟩ (by omega))
            have HA := Lib.hid (hA.pick s5 f5)
            clear hs4 hf4 hA s5 f5 hrow C1
            go_wp2
            go_ret
            exact ⟨⟨_, n, by omega, rfl, HA.out.1⟩, HA.out.2.1.more (by omega), HA.out.2.2⟩
          · by_cases q4 : q = 4
            · subst q4
              have C1 := Lib.hid (someGraph_any 8 lo rb (P + 302) w3 HA.out.2.1 (by omega) (by omega))
              go_wp2_with fail
              refine (C1.out).mono ?_
              rintro e w4 ⟨⟨v4, n4, hn4, rfl, hv4⟩, hs4, hf4⟩
              have HA := Lib.hid (HA.out.pick hs4 hf4)
              obtain ⟨A4, c4, rfl, _, _, hv4⟩ := hv4.form
              have HV4 := Lib.hid hv4
              clear hs4 hf4 hv4 C1
              go_wp2_with (at_builtin; refine push_tt rfl _ _ rfl HA.out.2.1 HA.out.1 HV4.out (by omega) ?_; intro A5 c5 w5 hnc5 hcm5 hv5 hs5 hf5)
              have HV5 := Lib.hid hv5
              have HF5 := Lib.hid hf5
              have HS5 := Lib.hid hs5
              clear hv5 hf5 hs5
              go_wp2
              go_ret
              exact ⟨⟨_, n + n4, by omega, rfl, HV5.out⟩, HS5.out.more (by omega), HA.out.2.2.trans HF5.out⟩
            · go_wp2
              go_ret
              exact ⟨⟨_, n, by omega, rfl, HA.out.1⟩, HA.out.2.1.more (by omega), HA.out.2.2⟩
end Go.Proofs.Ytihgakbopkaemaa
namespace Go.Proofs.Ytihgakbopkaemaa
open Go.RowKit
/-- what newReader hands back -/
def RdR (w : World) (e : Ending) (w' : World) : Prop := ∃ rb, e = .returned (.pointer (some ⟨rb, 0, none⟩)) ∧ St w.heap.size rb 0 w' ∧ Fwd w.heap.size w w'
theorem St.start {w : World} {A : Option Addr} {c : Nat} {l : List Int} (hb : RB w 0 w.heap.size A l) (hl : l.length ≤ 2000) :
    St w.heap.size w.heap.size 0 (w.alloc (.cells #[.slice A l.length c, .int .i64 0] 100)) ∧ Fwd w.heap.size w (w.alloc (.cells #[.slice A l.length c, .int .i64 0] 100)) := by
  have hu := Upd.alloc w 100 #[.slice A l.length c, .int .i64 0]
  have hbl := hu.below (Nat.le_refl _)
  refine ⟨⟨by simp, ?_, ?_⟩, hbl, hu.ext _⟩
  · intro b cs t s ht hlb hc i v hv
    by_cases e : b = w.heap.size
    · subst e
      rw [hu.at_] at hc
      cases hc
      rcases ht with ⟨h1, _⟩ | ⟨h1, _⟩ <;> exact absurd h1 (by decide)
    · rw [hu.other b e, Array.getElem?_eq_none hlb] at hc
      cases hc
  · exact ⟨Nat.le_refl _, A, c, l, 0, hu.at_, Nat.le_refl _, hl, hb.below hbl (Nat.le_refl _)⟩
theorem RB.take {w : World} {lo hi : Nat} {A : Option Addr} {l : List Int} (h : RB w lo hi A l) (n : Nat) : RB w lo hi A (l.take n) := by
  intro k hk
  have hk' : k < l.length := by simp at hk; omega
  obtain ⟨b, o, e, h1, h2, h3, h4⟩ := h k hk'
  exact ⟨b, o, e, h1, h2, by rw [h3]; simp, by simpa using h4⟩
theorem newReader_any (A : Option Addr) (c : Nat) (l : List Int) (w : World) (hb : RB w 0 w.heap.size A l) (hl : l.length ≤ c) (hc : c ≤ maxLen) :
    Calls Try.prog 39 #[.slice A l.length c] w (RdR w) := by
  have HB := Lib.hid hb
  clear hb
  have hl2 : l.length ≤ 9223372036854775807 := by unfold maxLen at hc; omega
  by_cases h2 : 2000 < l.length
  · have hs := St.start (c := c) (HB.out.take 2000) (by simp; omega)
    have e : (l.take 2000).length = 2000 := by simp; omega
    rw [e] at hs
    have HS := Lib.hid hs
    clear hs e
    go_enter Try.func39, Try.ntmps39
    go_wp2
    go_ret
    exact ⟨w.heap.size, rfl, HS.out⟩
  · have HS := Lib.hid (St.start (c := c) HB.out (by omega))
    go_enter Try.func39, Try.ntmps39
    go_wp2
    go_ret
    exact ⟨w.heap.size, rfl, HS.out⟩
theorem Row.lt {w : World} {lo b m : Nat} {t : TypeId} (r : Row w lo b t m) : b < w.heap.size := by
  obtain ⟨_, cs, hc, _⟩ := r
  exact Blk.lt (show Blk w b t cs from hc)
theorem choice_to {α : Type} (n : Nat) (P : Nat → α → Prop) (h : ∀ k, k < n → ∃ x, P k x) : ∃ l : List α, l.length = n ∧ ∀ k (hk : k < l.length), P k l[k] := by
  induction n with
  | zero => exact ⟨[], rfl, fun k hk => absurd hk (by simp)⟩
  | succ n ih =>
    obtain ⟨l, hl, hp⟩ := ih (fun k hk => h k (by omega))
    obtain ⟨x, hx⟩ := h n (by omega)
    refine ⟨l ++ [x], by simp [hl], ?_⟩
    intro k hk
    by_cases e : k < l.length
    · rw [List.getElem_append_left e]; exact hp k e
    · have : k = n := by simp at hk; omega
      subst this
      rw [List.getElem_append_right (by omega)]
      simpa using hx
theorem SL.ri {w : World} {lo rb P m c : Nat} {N : Option Addr} (h : SL w lo 3 1 (.slice N m c) m) (hs : St lo rb P w) : ∃ l : List Int, l.length = m ∧ RI w lo w.heap.size N l := by
  obtain ⟨l, hl, hp⟩ := choice_to m (fun k (x : Int) => ∃ b o, N = some ⟨b, o, none⟩ ∧ lo ≤ b ∧ b < w.heap.size ∧ w.cell? ⟨b, o + k, none⟩ = some (.int .i64 x)) (by
    intro k hk
    obtain ⟨b, o, x, e, hc, hlb, _, hr⟩ := h.cell hs hk
    exact ⟨x, b, o, e, hlb, hr.lt, hc⟩)
  exact ⟨l, hl, hp⟩
theorem SL.rg {w : World} {lo rb P n c : Nat} {A : Option Addr} (h : SL w lo 35 4 (.slice A n c) n) (hs : St lo rb P w) : ∃ g : List Bs.T, g.length = n ∧ RG w lo w.heap.size A g := by
  obtain ⟨g, hl, hp⟩ := choice_to n (fun k (T : Bs.T) => ∃ b o N c, A = some ⟨b, o, none⟩ ∧ lo ≤ b ∧ b < w.heap.size ∧
    w.cell? ⟨b, o + k * 4, none⟩ = some (.int .i64 T.time) ∧ w.cell? ⟨b, o + k * 4 + 1, none⟩ = some (.slice N T.needs.length c) ∧
    w.cell? ⟨b, o + k * 4 + 2, none⟩ = some (.int .i64 T.pool) ∧ w.cell? ⟨b, o + k * 4 + 3, none⟩ = some (.int .i64 T.units) ∧
    T.needs.length ≤ c ∧ c ≤ 9223372036854775807 ∧ RI w lo w.heap.size N T.needs) (by
    intro k hk
    obtain ⟨b, o, t, N, m, cN, p, u, e, hT, hlb, hr, _⟩ := h.task hs hk
    obtain ⟨l, hlen, hri⟩ := hT.sl.ri hs
    subst hlen
    exact ⟨⟨t, l, p, u⟩, b, o, N, cN, e, hlb, hr.lt, hT.c0, hT.c1, hT.c2, hT.c3, hT.mc, hT.cm, hri⟩)
  exact ⟨g, hl, hp⟩
/-- what a draw of a graph hands back -/
def DrawG (w : World) (e : Ending) (w' : World) : Prop := (∃ A c g, e = .returned (.slice A (List.length g) c) ∧ RG w' w.heap.size w'.heap.size A g ∧ g.length ≤ 16 ∧ g.length ≤ c ∧ c ≤ maxLen) ∧ Below w.heap.size w w'
theorem GrR.draw {w w1 w2 : World} {rb P : Nat} {e : Ending} (h : GrR w.heap.size rb P 16 w1 e w2) (hf : Fwd w.heap.size w w1) : DrawG w e w2 := by
  obtain ⟨⟨v, n, hn, rfl, hv⟩, hs, hf2⟩ := h
  obtain ⟨A, c, rfl, hnc, hcm, hv⟩ := hv.form
  obtain ⟨g, hl, hg⟩ := hv.rg hs
  subst hl
  exact ⟨⟨A, c, g, rfl, hg, hn, hnc, hcm⟩, (hf.trans hf2).1⟩
end Go.Proofs.Ytihgakbopkaemaa
