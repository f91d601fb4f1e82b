/-
  WALKS: one user is served, of the program: a made row, the copy of a list into it, one of it another one. No condition.
-/
import Derived.Test.YtbmfhnijbdmjbaaW104
import Derived.Test.YtbmfhnijbdmjbaaMem9
import Derived.Test.YtbmfhnijbdmjbaaMem10
import Derived.Test.YtbmfhnijbdmjbaaR62
namespace Go.Proofs.Ytbmfhnijbdmjbaa
open Go.RowKit
theorem run_copy3 (P : Program) (w : World) (dT sT ty elem : TypeId) (g dCap : Nat) (a : Addr) (n sCap : Nat) (cur : Array Value) (t : TypeId) (cs : List Value)
    (hu : P.underlying dT = some (.slice elem)) (hs : (P.info? elem).map (·.size) = some 3)
    (hg : w.heap[g]? = some (.cells cur t (0, 0))) (hn : cs.length = n * 3)
    (hsrc : ∀ j v, cs[j]? = some v → w.cell? (a.add j) = some v) (hfit : cs.length = cur.size) (h1 : ∀ v ∈ cs, v.oneCell' = true) :
    (Builtin.copy_ #[dT, sT] ty #[.slice (some ⟨g, 0, none⟩) n dCap, .slice (some a) n sCap]).run P w = .ok (goInt n) (w.setRow g cs.toArray) := by
  have hl := run_loadCells_list (P := P) w a cs hsrc
  have hst := run_storeCells_at P g 0 t cs 0 cur w hg (by omega) h1
  have e : (cur.toList.take (0 + 0) ++ cs ++ cur.toList.drop (0 + 0 + cs.length)).toArray = cs.toArray := by
    rw [List.drop_of_length_le (by simp; omega)]
    simp
  rw [e] at hst
  cases hq : P.info? elem with
  | none => simp [hq] at hs
  | some i =>
    have hi : i.size = 3 := by simpa [hq] using hs
    have hmin : Nat.min n n = n := Nat.min_self n
    simp [Builtin.copy_, run_underlying hu, Builtin.lenOf, Builtin.firstCells, sizeOf, typeInfo, hq, hi, hmin, ← hn, hl, hst]
theorem make_users (n : Nat) (hn : n ≤ 100) (u : World) : ∃ cur : Array Value, cur.size = n * 3 ∧ (Instr.makeSlice 25 (.int .i64 (n : Int)) (.int .i64 (n : Int))).run Try.prog u =
      .ok (.slice (some ⟨u.heap.size, 0, none⟩) n n) (u.alloc (.cells cur 46)) := by
  obtain ⟨i0, hi0, hz0, hz1, hz2⟩ := info_parts Try.infoUserD
  have h := run_make (P := Try.prog) u 25 46 i0 _ Try.underlying25 hi0 hz0 .i64 .i64 (n : Int) (n : Int) (by omega) (Int.le_refl _) (by rw [hz2]; omega) (by omega)
  rw [hz1] at h
  refine ⟨_, ?_, h⟩
  simp [madeCells]
theorem copy_users {ops : Array Oper} {rest : List Oper} {o : Oper} {a : Act} {Q : Exit → Act → World → Prop} {w : World} (hgd : o.guard = none) (x y : Operand)
    (ho : o.op = .call { callee := .builtin .copy, args := #[x, y], argTypes := #[25, 25] })
    (B g n : Nat) (l : List Bs.U) (hn : l.length = n) (b off c : Nat) (cur : Array Value) (hg : Blk w g 46 cur) (hcs : cur.size = n * 3) (hB : B ≤ g) (hlen : n ≤ 1000)
    (hx : a.eval x = .slice (some ⟨g, 0, none⟩) n n) (hy : a.eval y = .slice (some ⟨b, off, none⟩) n c)
    (hc : ∀ j u, (l.flatMap uc)[j]? = some u → w.cell? ⟨b, off + j, none⟩ = some u)
    (h : ∀ w', OR w' B (some ⟨g, 0, none⟩) n l → OnlyB g w w' → wpList Try.prog ops Q rest (a.put o.dst (.int .i64 n)) w') : wpList Try.prog ops Q (o :: rest) a w := by
  refine wpList_plain hgd fun K hK => ?_
  have hl3 : (l.flatMap uc).length = n * 3 := by rw [OR.len, hn]
  have hr := run_copy3 Try.prog w 25 25 o.type 46 g n ⟨b, off, none⟩ n c cur 46 (l.flatMap uc) Try.underlying25 Try.sizeUserD hg hl3
    (by intro j v hj; rw [Addr.add_lit]; exact hc j v hj) (by rw [hl3, hcs]) (fun v hv => uc_one hv)
  unfold Oper.wp
  simp [execOp, ho, resolve, invoke, builtin, hx, hy, hr, Result.andThen]
  refine hK _ _ (h _ ?_ ?_)
  · refine ⟨OR.len, .inr ⟨g, n, (l.flatMap uc).toArray, by rw [hn], hB, setRow_heap w g cur _ 46 _ hg, by omega, by unfold maxLen; omega, by simp [hl3], ?_⟩⟩
    rw [hn]
    exact List.take_of_length_le (by simp only; omega)
  · exact ⟨rfl, rfl, rfl, by simp, fun k hk => setRow_other w g k _ hk⟩
set_option maxRecDepth 20000 in
set_option maxHeartbeats 3200000 in
theorem ServeUser_any (A : Option Addr) (c : Nat) (l : List Bs.U) (t : Int) (lo hi : Nat) (w : World) (h : RU w lo hi A l) (hh : hi ≤ w.heap.size) (hl : l.length ≤ 9223372036854775807) :
    Calls Try.prog 17 #[.slice A l.length c, .int .i64 t] w (RetUs w l t) := by
  have q1 := NextUser_any A c l lo hi w h hh hl
  have q2 := fun W => validTime_any t W
  obtain ⟨N, hN⟩ : ∃ N, N = Bs.nextL l := ⟨_, rfl⟩
  rw [← hN] at q1
  have C1 := Lib.hid q1
  by_cases h0 : N < 0
  · have HV := Lib.hid (show Bs.seOk l t = false from by
      cases hs : Bs.seOk l t
      · rfl
      · obtain ⟨h1, h2⟩ := Bs.seOk_iff.1 hs
        rw [hN, Bs.nextL_yes (Bs.srvOk_iff.1 h1).1] at h0
        omega)
    clear q1 q2 h hN
    go_enter Try.func17, Try.ntmps17
    go_wp2_with fail
    with_reducible refine (C1.out).mono ?_
    rintro e w1 ⟨rfl, hb⟩
    have HB := Lib.hid hb
    clear hb
    go_wp2
    go_ret3
    exact RetUs.no HV.out HB.out
  · have hu : Bs.usersOk l = true := by
      cases hu : Bs.usersOk l
      · rw [hN, Bs.nextL_no hu] at h0; exact absurd (by decide) h0
      · rfl
    rw [Bs.nextL_yes hu] at hN
    cases htt : decide (1 ≤ t ∧ t ≤ 20)
    · rw [htt] at q2
      have C2 := Lib.hid q2
      have HV := Lib.hid (show Bs.seOk l t = false from by unfold Bs.seOk Bs.srvOk; rw [htt, hu]; rfl)
      clear q1 q2 hu htt h hN
      go_enter Try.func17, Try.ntmps17
      go_wp2_with fail
      with_reducible refine (C1.out).mono ?_
      rintro e w1 ⟨rfl, hb⟩
      have HB := Lib.hid hb
      clear hb
      go_wp2_with fail
      with_reducible refine (C2.out _).mono ?_
      rintro e w2 ⟨rfl, rfl⟩
      go_wp2
      go_ret3
      exact RetUs.no HV.out HB.out
    · rw [htt] at q2
      have C2 := Lib.hid q2
      have ht := of_decide_eq_true htt
      have HV := Lib.hid (show Bs.seOk l t = true from Bs.seOk_iff.2 ⟨Bs.srvOk_iff.2 ⟨hu, ht⟩, by omega⟩)
      obtain ⟨hm, hwm⟩ := Bs.next_at hu (by omega)
      obtain ⟨m, em⟩ : ∃ m : Nat, Bs.nextC l = (m : Int) := ⟨(Bs.nextC l).toNat, by omega⟩
      have HM := Lib.hid em
      have hsv0 : l.set m (Bs.servU (Bs.gu l m) t) = Bs.srvL l t := by unfold Bs.srvL; rw [em]; rfl
      rw [em] at hm
      have hm : m < l.length := hm
      have hok := (Bs.usersOk_iff.1 hu).2 m hm
      have h5 := (Bs.usersOk_iff.1 hu).1.2
      obtain rfl : N = (m : Int) := hN.trans em
      have c3 := fun W => served_any (Bs.gu l m) t W hok ht
      unfold uV at c3
      obtain ⟨y, hy⟩ : ∃ y, y = Bs.servU (Bs.gu l m) t := ⟨_, rfl⟩
      rw [← hy] at c3
      have C3 := Lib.hid c3
      obtain ⟨b, o, rfl, _, _, _, _, _⟩ := h.at_ hm
      have HR := Lib.hid (fun W (hb : Below w.heap.size w W) => h.below hb hh)
      rw [← hy] at hsv0
      have HSV := Lib.hid hsv0
      clear q1 q2 hu htt h hN hwm em c3 hy hsv0
      have i0 : (0 : Int) ≤ (m : Int) := by omega
      have i1 : (m : Int) < (l.length : Int) := by omega
      have hmm : 0 ≤ (m : Int) ∧ (m : Int) < (l.length : Int) := ⟨i0, i1⟩
      go_enter Try.func17, Try.ntmps17
      go_wp2_with fail
      with_reducible refine (C1.out).mono ?_
      rintro e w1 ⟨rfl, hb1⟩
      have s1 := hb1.size
      have HB1 := Lib.hid hb1
      clear hb1 C1
      obtain ⟨cur, hcs, hmk⟩ := make_users l.length (by omega) w1
      have HBa := Lib.hid (HB1.out.alloc s1 (.cells cur 46))
      have HK := Lib.hid (Blk.new w1 46 cur)
      have HC := Lib.hid (HR.out _ HBa.out).cells
      go_wp2_with fail
      with_reducible refine (C2.out _).mono ?_
      rintro e w2 ⟨rfl, rfl⟩
      go_wp2_with (first
        | (refine copy_users rfl _ _ rfl w.heap.size w1.heap.size l.length l rfl b o c cur HK.out hcs s1 (by omega) rfl rfl HC.out ?_; intro w3 ho3 hon3; have HO3 := Lib.hid ho3; have HB3 := Lib.hid (HBa.out.trans (hon3.below s1)); obtain ⟨b', o', e', _, _, q0, q1, q2⟩ := (HR.out _ HB3.out).at_ hm; cases e'; clear ho3 hon3))
      iterate 3 (try (unfold Oper.upon; go_simp; go_wp2_with fail))
      with_reducible refine (C3.out _).mono ?_
      rintro e w4 ⟨rfl, hb4⟩
      have HO4 := Lib.hid (HO3.out.below hb4 (Nat.le_refl _))
      have HB4 := Lib.hid (HB3.out.trans (hb4.mono HB3.out.size))
      clear hb4
      go_wp2_with (go_loud (refine ur_store2 rfl _ _ rfl w.heap.size w1.heap.size l.length l m hm y rfl rfl HO4.out ?_; intro w5 h5 o5; have H5 := Lib.hid h5; have HB5 := Lib.hid (HB4.out.trans (o5.below s1)); clear h5 o5))
      go_ret3
      exact RetUs.yes HV.out HM.out.symm HSV.out (by simp) H5.out HB5.out
end Go.Proofs.Ytbmfhnijbdmjbaa
