/-
  WALKS: users that are valid; who comes before whom; sums of shares, of the program.
-/
import Derived.Test.YtbmfhnijbdmjbaaMem7
namespace Go.Proofs.Ytbmfhnijbdmjbaa
open Go.RowKit
/-- a user as a value -/
def uV (u : Bs.U) : Value := .agg #[.int .i64 u.share, .int .i64 u.used, .int .i64 u.waits]
theorem validUser_any (u : Bs.U) (w : World) :
    Calls Try.prog 34 #[uV u] w fun e w' => e = .returned (.bool (Bs.uOk u)) ∧ Below w.heap.size w w' := by
  obtain ⟨s, us, wt⟩ := u
  obtain ⟨V, hV⟩ : ∃ V, V = Bs.uOk ⟨s, us, wt⟩ := ⟨_, rfl⟩
  rw [← hV]
  have HV := Lib.hid (show V = ((decide (1 ≤ s ∧ s ≤ 10) && decide (0 ≤ us ∧ us ≤ 10000)) && decide (0 ≤ wt ∧ wt ≤ 6)) from hV)
  have HB := Lib.hid (Below.alloc (Below.refl w.heap.size w) (Nat.le_refl _) (.cells #[.int .i64 s, .int .i64 us, .int .i64 wt] 46))
  clear hV
  unfold uV
  simp only
  by_cases a1 : s < 1
  · have HE := Lib.hid (show V = false from by rw [HV.out]; simp; omega)
    clear HV
    go_enter Try.func34, Try.ntmps34
    go_wp2
    go_ret
    exact ⟨ret_bool HE.out.symm, HB.out⟩
  by_cases a2 : 10 < s
  · have HE := Lib.hid (show V = false from by rw [HV.out]; simp; omega)
    clear HV
    go_enter Try.func34, Try.ntmps34
    go_wp2
    go_ret
    exact ⟨ret_bool HE.out.symm, HB.out⟩
  by_cases a3 : us < 0
  · have HE := Lib.hid (show V = false from by rw [HV.out]; simp; omega)
    clear HV
    go_enter Try.func34, Try.ntmps34
    go_wp2
    go_ret
    exact ⟨ret_bool HE.out.symm, HB.out⟩
  by_cases a4 : 10000 < us
  · have HE := Lib.hid (show V = false from by rw [HV.out]; simp; omega)
    clear HV
    go_enter Try.func34, Try.ntmps34
    go_wp2
    go_ret
    exact ⟨ret_bool HE.out.symm, HB.out⟩
  by_cases a5 : 0 ≤ wt
  · have HE := Lib.hid (show V = decide (wt ≤ 6) from by rw [HV.out, decide_eq_true (show 1 ≤ s ∧ s ≤ 10 from by omega), decide_eq_true (show 0 ≤ us ∧ us ≤ 10000 from by omega), Bool.true_and, Bool.true_and, decide_eq_decide]; omega)
    clear HV
    go_enter Try.func34, Try.ntmps34
    go_wp2
    go_ret
    exact ⟨ret_bool HE.out.symm, HB.out⟩
  · have HE := Lib.hid (show V = false from by rw [HV.out]; simp; omega)
    clear HV
    go_enter Try.func34, Try.ntmps34
    go_wp2
    go_ret
    exact ⟨ret_bool HE.out.symm, HB.out⟩
theorem users_no1 {l : List Bs.U} (h : ¬ (1 ≤ l.length ∧ l.length ≤ 5)) : Bs.usersOk l = false := by
  cases e : Bs.usersOk l
  · rfl
  · exact absurd (Bs.usersOk_iff.1 e).1 h
theorem users_no2 {l : List Bs.U} {k : Nat} (hk : k < l.length) (h : Bs.uOk (Bs.gu l k) = false) : Bs.usersOk l = false := by
  cases e : Bs.usersOk l
  · rfl
  · rw [(Bs.usersOk_iff.1 e).2 k hk] at h; cases h
set_option maxHeartbeats 800000 in
theorem ValidUsers_any (A : Option Addr) (c : Nat) (l : List Bs.U) (lo hi : Nat) (w : World) (h : RU w lo hi A l) (hh : hi ≤ w.heap.size) (hl : l.length ≤ 9223372036854775807) :
    Calls Try.prog 12 #[.slice A l.length c] w fun e w' => e = .returned (.bool (Bs.usersOk l)) ∧ Below w.heap.size w w' := by
  by_cases hn : 1 ≤ l.length ∧ l.length ≤ 5
  rotate_left
  · have HV := Lib.hid (users_no1 hn)
    clear h
    by_cases h0 : l.length < 1
    · have e0 : l.length = 0 := by omega
      clear hn
      rw [e0]
      go_enter Try.func12, Try.ntmps12
      go_wp2
      go_ret
      exact ⟨ret_bool HV.out.symm, Below.refl _ _⟩
    · have h6 : (5 : Int) < (l.length : Int) := by omega
      have h1 : ¬ (l.length : Int) < 1 := by omega
      clear hn
      go_enter Try.func12, Try.ntmps12
      go_wp2
      go_ret
      exact ⟨ret_bool HV.out.symm, Below.refl _ _⟩
  · have HN := Lib.hid (fun k (hk : k < l.length) (h : Bs.uOk (Bs.gu l k) = false) => users_no2 hk h)
    have HY := Lib.hid (fun (h : ∀ k, k < l.length → Bs.uOk (Bs.gu l k) = true) => Bs.usersOk_iff.2 ⟨hn, h⟩)
    have HR := Lib.hid h
    have C1 := Lib.hid (fun u W => validUser_any u W)
    generalize Bs.usersOk l = V at *
    obtain ⟨n1, n5⟩ := hn
    have f1 : ¬ (l.length : Int) < 1 := by omega
    have f2 : ¬ (5 : Int) < (l.length : Int) := by omega
    clear h
    go_enter Try.func12, Try.ntmps12
    go_wp2
    go_loopw [15] (fun i wr => ∃ k : Nat, k ≤ l.length ∧ i = .int .i64 k ∧ (∀ j, j < k → Bs.uOk (Bs.gu l j) = true) ∧ Below w.heap.size w wr) (fun i _ => l.length - (intOf i).toNat)
    case atStart => exact ⟨0, Nat.zero_le _, rfl, fun j hj => by omega, Below.refl _ _⟩
    case round =>
      obtain ⟨k, hk, rfl, hall, hb⟩ := hrel
      have sr := hb.size
      by_cases hlt : k < l.length
      · obtain ⟨b, o, rfl, _, _, q0, q1, q2⟩ := (HR.out.below hb hh).at_ hlt
        have hno := HN.out k hlt
        have HX := Lib.hid (show Bs.uOk (Bs.gu l k) = true → ∀ j, j < k + 1 → Bs.uOk (Bs.gu l j) = true from by
          intro h j hj
          by_cases e : j = k
          · subst e; exact h
          · exact hall j (by omega))
        have C2 := Lib.hid (fun W => show Calls Try.prog 34 #[.agg #[.int .i64 (Bs.gu l k).share, .int .i64 (Bs.gu l k).used, .int .i64 (Bs.gu l k).waits]] W fun e w' => e = .returned (.bool (Bs.uOk (Bs.gu l k))) ∧ Below W.heap.size W w' from C1.out (Bs.gu l k) W)
        have HNO := Lib.hid hno
        have HB := Lib.hid (fun (cs : Array Value) => hb.alloc sr (.cells cs 46))
        clear hall hno hb HN HY
        generalize Bs.uOk (Bs.gu l k) = v at *
        generalize (Bs.gu l k).share = us at *
        generalize (Bs.gu l k).used = uu at *
        generalize (Bs.gu l k).waits = uw at *
        go_wp2_with fail
        refine (C2.out _).mono ?_
        rintro e w2 ⟨rfl, hb2⟩
        have HB2 := Lib.hid ((HB.out #[.int .i64 us, .int .i64 uu, .int .i64 uw]).trans (hb2.mono (by simp; omega)))
        clear hb2 C1 C2 HB
        cases v
        · have HE := Lib.hid (HNO.out rfl)
          go_wp2
          go_ret
          exact ⟨ret_bool HE.out.symm, HB2.out⟩
        · have HE := Lib.hid (HX.out rfl)
          go_wp2
          go_roundw
          case rel => exact ⟨k + 1, by omega, by go_num, HE.out, HB2.out⟩
          case measure => simp [intOf]; omega
      · obtain rfl : k = l.length := by omega
        have HE := Lib.hid (HY.out (fun j hj => hall j hj))
        have HB := Lib.hid hb
        clear hall hb
        go_wp2
        go_ret
        exact ⟨ret_bool HE.out.symm, HB.out⟩
/-- the sum of the shares of the first k -/
def shK (l : List Bs.U) (k : Nat) : Int := Bs.sumZ ((l.take k).map Bs.U.share)
theorem shK_zero (l : List Bs.U) : shK l 0 = 0 := by simp [shK, Bs.sumZ]
theorem shK_succ (l : List Bs.U) (k : Nat) (hk : k < l.length) : shK l (k + 1) = shK l k + (Bs.gu l k).share := by
  unfold shK
  rw [List.take_succ_eq_append_getElem hk, List.map_append, Bs.sumZ_append, Bs.gu_at hk]
  simp [Bs.sumZ]
theorem shK_b {l : List Bs.U} (h : Bs.usersOk l = true) : ∀ k, k ≤ l.length → (k : Int) ≤ shK l k ∧ shK l k ≤ 10 * k := by
  intro k
  induction k with
  | zero => intro _; rw [shK_zero]; omega
  | succ k ih =>
    intro hk
    rw [shK_succ l k (by omega)]
    have := ih (by omega)
    have := (Bs.uOk_iff.1 ((Bs.usersOk_iff.1 h).2 k (by omega))).1
    omega
theorem allShares_any (A : Option Addr) (c : Nat) (l : List Bs.U) (lo hi : Nat) (w : World) (h : RU w lo hi A l) (hh : hi ≤ w.heap.size) (hu : Bs.usersOk l = true) :
    Calls Try.prog 43 #[.slice A l.length c] w fun e w' => e = .returned (.int .i64 (shK l l.length)) ∧ Below w.heap.size w w' := by
  have HS := Lib.hid (fun k (hk : k < l.length) => shK_succ l k hk)
  have HSB := Lib.hid (fun k (hk : k ≤ l.length) => shK_b hu k hk)
  have h5 := (Bs.usersOk_iff.1 hu).1.2
  have HUS := Lib.hid (fun k (hk : k < l.length) => (Bs.uOk_iff.1 ((Bs.usersOk_iff.1 hu).2 k hk)).1)
  have H0 := Lib.hid (shK_zero l)
  have HR := Lib.hid h
  clear h hu
  generalize shK l = sk at *
  go_enter Try.func43, Try.ntmps43
  go_wp2
  go_loopw [3, 8] (fun s i wr => ∃ k : Nat, k ≤ l.length ∧ i = .int .i64 k ∧ s = .int .i64 (sk k) ∧ Below w.heap.size w wr) (fun _ i _ => l.length - (intOf i).toNat)
  case atStart => exact ⟨0, Nat.zero_le _, rfl, by rw [H0.out], Below.refl _ _⟩
  case round =>
    obtain ⟨k, hk, rfl, rfl, hb⟩ := hrel
    have sr := hb.size
    by_cases hlt : k < l.length
    · obtain ⟨b, o, rfl, _, _, q0, q1, q2⟩ := (HR.out.below hb hh).at_ hlt
      have hs := HS.out k hlt
      have hsb := HSB.out k (by omega)
      have hus := HUS.out k hlt
      have HSS := Lib.hid hs
      have HB := Lib.hid (fun (cs : Array Value) => hb.alloc sr (.cells cs 46))
      clear hs hb HS HSB HUS
      generalize (Bs.gu l k).share = us at *
      generalize (Bs.gu l k).used = uu at *
      generalize (Bs.gu l k).waits = uw at *
      generalize sk k = t at *
      have hw : IntKind.i64.wrap (t + us) = t + us := IntWalk.i64_in _ ⟨by omega, by omega⟩
      go_wp2
      go_roundw
      case rel => exact ⟨k + 1, by omega, by go_num, by rw [HSS.out], HB.out _⟩
      case measure => simp [intOf]; omega
    · obtain rfl : k = l.length := by omega
      have HB := Lib.hid hb
      clear hb
      go_wp2
      go_ret
      exact ⟨rfl, HB.out⟩
/-- a user in the heap, as a value -/
def hV (a : Bs.H) : Value := .agg #[.int .i64 a.at_, .int .i64 a.u.share, .int .i64 a.u.used, .int .i64 a.u.waits]
theorem servedBefore_any (a b : Bs.H) (w : World) (ha : Bs.hOk a) (hb : Bs.hOk b) :
    Calls Try.prog 58 #[hV a, hV b] w fun e w' => e = .returned (.bool (decide (Bs.hkey a < Bs.hkey b))) ∧ Below w.heap.size w w' := by
  have hk := Bs.before_key ha hb
  have p1 := Bs.uprod ha.1 hb.1
  have p2 := Bs.uprod hb.1 ha.1
  obtain ⟨aa, sa, ua, wa⟩ := a
  obtain ⟨ba, sb, ub, wb⟩ := b
  simp only at hk p1 p2
  generalize decide (Bs.hkey ⟨aa, ⟨sa, ua, wa⟩⟩ < Bs.hkey ⟨ba, ⟨sb, ub, wb⟩⟩) = V at *
  have HB := Lib.hid ((Below.alloc (Below.refl w.heap.size w) (Nat.le_refl _) (.cells #[.int .i64 aa, .int .i64 sa, .int .i64 ua, .int .i64 wa] 52)).alloc (by simp) (.cells #[.int .i64 ba, .int .i64 sb, .int .i64 ub, .int .i64 wb] 52))
  have hw1 : IntKind.i64.wrap (ua * sb) = ua * sb := IntWalk.i64_in _ ⟨by omega, by omega⟩
  have hw2 : IntKind.i64.wrap (ub * sa) = ub * sa := IntWalk.i64_in _ ⟨by omega, by omega⟩
  unfold hV
  simp only
  clear ha hb
  by_cases e : ua * sb = ub * sa
  · rw [if_pos e] at hk
    have HK := Lib.hid hk
    have d1 : (ua * sb == ub * sa) = true := by simpa using e
    clear hk p1 p2
    go_enter Try.func58, Try.ntmps58
    go_wp2
    go_ret
    exact ⟨ret_bool HK.out, HB.out⟩
  · rw [if_neg e] at hk
    have HK := Lib.hid hk
    have d1 : (ua * sb == ub * sa) = false := by simpa using e
    clear hk p1 p2
    go_enter Try.func58, Try.ntmps58
    go_wp2
    go_ret
    exact ⟨ret_bool HK.out, HB.out⟩
theorem Blk.two (w : World) (o : Obj) (t : TypeId) (cs : Array Value) : Blk ((w.alloc o).alloc (.cells cs t)) (w.heap.size + 1) t cs := by
  have := Blk.new (w.alloc o) t cs
  rwa [show (w.alloc o).heap.size = w.heap.size + 1 from by simp] at this
theorem us_ret {fn : Func} {p : Tmp} (h : fn.results = #[.cell p 46]) (tmps : Array Value) (w : World) (g : Nat) (s u v : Int) (hp : tmps.getD p undef = .pointer (some ⟨g, 0, none⟩)) (hg : Blk w g 46 #[.int .i64 s, .int .i64 u, .int .i64 v]) :
    (results fn tmps).run Try.prog w = .ok (.agg #[.int .i64 s, .int .i64 u, .int .i64 v]) w :=
  results_cell_row h tmps w g 46 _ (0, 0) _ hp hg Try.underlying46 rfl Try.sizeUserD
theorem served_any (u : Bs.U) (t : Int) (w : World) (hu : Bs.uOk u = true) (ht : 1 ≤ t ∧ t ≤ 20) :
    Calls Try.prog 40 #[uV u, .int .i64 t] w fun e w' => e = .returned (uV (Bs.servU u t)) ∧ Below w.heap.size w w' := by
  obtain ⟨_, u1, u2⟩ := Bs.uOk_iff.1 hu
  obtain ⟨s, us, wt⟩ := u
  simp only at u1 u2
  have HS := Lib.hid (show Bs.servU ⟨s, us, wt⟩ t = ⟨s, if 10000 < us + t then 10000 else us + t, wt - 1⟩ from rfl)
  generalize Bs.servU ⟨s, us, wt⟩ t = R at *
  have hw1 : IntKind.i64.wrap (us + t) = us + t := IntWalk.i64_in _ ⟨by omega, by omega⟩
  have hw2 : IntKind.i64.wrap (wt - 1) = wt - 1 := IntWalk.i64_in _ ⟨by omega, by omega⟩
  have HB := Lib.hid (fun (x y : Array Value) => (Below.alloc (Below.refl w.heap.size w) (Nat.le_refl _) (.cells x 46)).alloc (by simp) (.cells y 46))
  have HK := Lib.hid (fun (x y : Array Value) => Blk.two w (.cells x 46) 46 y)
  unfold uV
  simp only
  clear hu
  by_cases e : 10000 < us + t
  · have HE := Lib.hid (show R = ⟨s, 10000, wt - 1⟩ from by rw [HS.out, if_pos e])
    clear HS
    go_enter Try.func40, Try.ntmps40
    go_wp2
    exact bodyPost_ret (us_ret rfl _ _ (w.heap.size + 1) s 10000 (wt - 1) rfl (HK.out _ _)) rfl ⟨by rw [HE.out], HB.out _ _⟩
  · have HE := Lib.hid (show R = ⟨s, us + t, wt - 1⟩ from by rw [HS.out, if_neg e])
    clear HS
    go_enter Try.func40, Try.ntmps40
    go_wp2
    exact bodyPost_ret (us_ret rfl _ _ (w.heap.size + 1) s (us + t) (wt - 1) rfl (HK.out _ _)) rfl ⟨by rw [HE.out], HB.out _ _⟩
end Go.Proofs.Ytbmfhnijbdmjbaa
