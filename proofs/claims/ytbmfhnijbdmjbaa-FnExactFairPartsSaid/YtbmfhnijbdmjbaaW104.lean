/-
  WALKS: the heap of users is built; who comes next; all are served, of the program.
-/
import Derived.Test.YtbmfhnijbdmjbaaW103
namespace Go.Proofs.Ytbmfhnijbdmjbaa
open Go.RowKit
theorem ho_top (f : Nat → Bs.H) (n : Nat) : Bs.HO f n n := fun i hi hin hp => by
  exfalso
  have : Bs.par i < i := by unfold Bs.par; omega
  omega
def HeapOf (l : List Bs.U) (f : Nat → Bs.H) (n : Nat) : Prop := Bs.UHS l l.length f n ∧ Bs.HO f n 0
theorem z5New (w : World) : UB (w.alloc (.cells #[.int .i64 0, .int .i64 0, .int .i64 0, .int .i64 0, .int .i64 0, .int .i64 0, .int .i64 0, .int .i64 0, .int .i64 0, .int .i64 0, .int .i64 0, .int .i64 0, .int .i64 0, .int .i64 0, .int .i64 0, .int .i64 0, .int .i64 0, .int .i64 0, .int .i64 0, .int .i64 0, .int .i64 0] 55)) w.heap.size z5 0 := UB.new w z5 0
set_option maxRecDepth 20000 in
set_option maxHeartbeats 3200000 in
theorem waitingUsers_any (A : Option Addr) (c : Nat) (l : List Bs.U) (lo hi : Nat) (w : World) (h : RU w lo hi A l) (hh : hi ≤ w.heap.size) (hu : Bs.usersOk l = true) :
    Calls Try.prog 37 #[.slice A l.length c] w fun e w' => (∃ f n, e = .returned (.agg (huA f (n : Nat))) ∧ HeapOf l f n ∧ n ≤ 5) ∧ Below w.heap.size w w' := by
  have h5 := (Bs.usersOk_iff.1 hu).1.2
  have z1 := (z5New w).alloc (.cells (huA z5 0) 55)
  have z2 := UB.new (w.alloc (.cells (huA z5 0) 55)) z5 0
  rw [show (w.alloc (.cells (huA z5 0) 55)).heap.size = w.heap.size + 1 from by simp] at z2
  have hbl : Below w.heap.size w ((w.alloc (.cells (huA z5 0) 55)).alloc (.cells (huA z5 0) 55)) := ((Below.refl _ _).alloc (Nat.le_refl _) _).alloc (by simp) _
  rw [z5A] at z1 z2 hbl
  have HZ1 := Lib.hid z1
  have HZ2 := Lib.hid z2
  have HBL := Lib.hid hbl
  have HR := Lib.hid h
  have HU := Lib.hid hu
  have HS0 := Lib.hid (Bs.UHS.start l z5)
  clear z1 z2 hbl h hu
  go_enter Try.func37, Try.ntmps37
  go_wp2_with (first
    | (refine hu_store rfl _ _ rfl (w.heap.size + 1) z5 z5 0 0 rfl rfl HZ2.out ?_; intro w0 h0 o0; have HQ2 := Lib.hid h0; have HQ1 := Lib.hid (o0.ub HZ1.out (by omega)); have HQL := Lib.hid (HBL.out.trans (o0.below (Nat.le_succ _))); clear h0 o0))
  clear HZ1 HZ2 HBL
  go_loopw [10] (fun i wr => ∃ (k : Nat) (f : Nat → Bs.H) (n : Nat), k ≤ l.length ∧ i = .int .i64 (k : Int) ∧ UB wr (w.heap.size + 1) f (n : Int) ∧ UB wr w.heap.size z5 0 ∧ Bs.UHS l k f n ∧ Below w.heap.size w wr) (fun i _ => l.length - (intOf i).toNat)
  case atStart => exact ⟨0, z5, 0, Nat.zero_le _, rfl, HQ2.out, HQ1.out, HS0.out, HQL.out⟩
  case round =>
    obtain ⟨k, f, n, hk, rfl, hub, hz, hs, hb⟩ := hrel
    clear HQ1 HQ2 HQL HS0
    have hnk := hs.le
    by_cases hlt : k < l.length
    · obtain ⟨b, o, rfl, _, _, q0, q1, q2⟩ := (HR.out.below hb hh).at_ hlt
      have hn5 : n < 5 := by omega
      have k20 := hub.n
      have sr := hb.size
      have hlb := hub.lt
      have HUB := Lib.hid hub
      have HZ := Lib.hid hz
      have HB := Lib.hid hb
      have HSK := Lib.hid (fun hw => hs.skip hlt hw)
      have HSP := Lib.hid (fun hw => hs.push hlt hw)
      have hH : (⟨(k : Int), Bs.gu l k⟩ : Bs.H) = ⟨(k : Int), ⟨(Bs.gu l k).share, (Bs.gu l k).used, (Bs.gu l k).waits⟩⟩ := rfl
      rw [hH] at HSP
      clear hub hz hb hs hH
      generalize (Bs.gu l k).share = us at *
      generalize (Bs.gu l k).used = uu at *
      generalize (Bs.gu l k).waits = uw at *
      have j0 : (0 : Int) ≤ (n : Int) := by omega
      have j1 : (n : Int) < 5 := by omega
      have hw1 : IntKind.i64.wrap ((n : Int) + 1) = (n : Int) + 1 := IntWalk.i64_in _ ⟨by omega, by omega⟩
      by_cases hw : 0 < uw
      · have HP := Lib.hid (HSP.out hw)
        clear HSK HSP
        go_wp2_with (first
          | (refine wu_store rfl _ _ rfl (w.heap.size + 1) f (n : Int) n hn5 ⟨(k : Int), ⟨us, uu, uw⟩⟩ rfl rfl (HUB.out.alloc _) ?_; intro w3 h3 o3; have k21 := h3.n; have kf := h3.frozen 20; have HU3 := Lib.hid (show UB (w3.setCell ⟨w.heap.size + 1, 20, none⟩ (.int .i64 ((n : Int) + 1))) (w.heap.size + 1) (Bs.upd f n ⟨(k : Int), ⟨us, uu, uw⟩⟩) ((n + 1 : Nat) : Int) from h3.setN _); have HZ3 := Lib.hid ((o3.ub (HZ.out.alloc (.cells #[.int .i64 us, .int .i64 uu, .int .i64 uw] 46)) (by omega)).setFar (p := ⟨w.heap.size + 1, 20, none⟩) (show w.heap.size ≠ w.heap.size + 1 from by omega) (.int .i64 ((n : Int) + 1))); have HB3 := Lib.hid (((HB.out.alloc sr (.cells #[.int .i64 us, .int .i64 uu, .int .i64 uw] 46)).trans (o3.below (show w.heap.size ≤ _ by omega))).setCell (p := ⟨w.heap.size + 1, 20, none⟩) (Nat.le_succ _) (.int .i64 ((n : Int) + 1))); clear h3 o3))
        go_roundw
        case rel => exact ⟨k + 1, _, n + 1, by omega, by go_num, HU3.out, HZ3.out, HP.out, HB3.out⟩
        case measure => simp [intOf]; omega
      · have HP := Lib.hid (HSK.out hw)
        clear HSK HSP
        go_wp2
        go_roundw
        case rel => exact ⟨k + 1, f, n, by omega, by go_num, HUB.out.alloc _, HZ.out.alloc _, HP.out, HB.out.alloc sr _⟩
        case measure => simp [intOf]; omega
    · obtain rfl : k = l.length := by omega
      have k20 := hub.n
      have HUB := Lib.hid hub
      have HZ := Lib.hid hz
      have HB := Lib.hid hb
      have HS := Lib.hid hs
      have hw1 : IntKind.i64.wrap ((n : Int) - 1) = (n : Int) - 1 := IntWalk.i64_in _ ⟨by omega, by omega⟩
      clear hub hz hb hs HR
      go_wp2
      go_loopw [6] (fun i wr2 => ∃ (p : Nat) (g : Nat → Bs.H), p ≤ n ∧ i = .int .i64 ((p : Int) - 1) ∧ UB wr2 (w.heap.size + 1) g (n : Int) ∧ UB wr2 w.heap.size z5 0 ∧ Bs.UHS l l.length g n ∧ Bs.HO g n p ∧ Below w.heap.size w wr2) (fun i _ => (intOf i + 1).toNat)
      case atStart => exact ⟨n, f, Nat.le_refl _, rfl, HUB.out, HZ.out, HS.out, ho_top f n, HB.out⟩
      case round =>
        clear k20 hw1 HUB HZ HB HS
        obtain ⟨p, g, hp, rfl, hub, hz, hs, ho, hb⟩ := hrel
        have hsz := huA_size g n
        by_cases hp0 : p = 0
        · subst hp0
          have HUB := Lib.hid hub
          have HZ := Lib.hid hz
          have HB := Lib.hid hb
          have HH := Lib.hid (show HeapOf l g n from ⟨hs, ho⟩)
          clear hub hz hb hs ho
          go_wp2_with (first
            | (refine hu_load rfl _ rfl (w.heap.size + 1) g n rfl HUB.out ?_)
            | (refine hu_store rfl _ _ rfl w.heap.size z5 g 0 n rfl rfl HZ.out ?_; intro w5 h5 o5; have H5 := Lib.hid h5; have HB5 := Lib.hid (HB.out.trans (o5.below (Nat.le_refl _))); clear h5 o5))
          exact bodyPost_ret (hu_ret rfl _ _ w.heap.size g n rfl H5.out) rfl ⟨⟨g, n, rfl, HH.out, by omega⟩, HB5.out⟩
        · obtain ⟨q, rfl⟩ : ∃ q, p = q + 1 := ⟨p - 1, by omega⟩
          have e1 : ((q + 1 : Nat) : Int) - 1 = (q : Int) := by omega
          rw [e1]
          have C1 := Lib.hid (fun W => settled_any 5 g n q (by omega) (by omega) (by omega) (fun j hj => hs.ok HU.out hj) W)
          have HN := Lib.hid (Bs.settle_ho n q 5 g q ho.hd (by omega))
          have HNS := Lib.hid (hs.settle 5 g q (by omega))
          have HUB := Lib.hid hub
          have HZ := Lib.hid hz
          have HB := Lib.hid hb
          have sr := hb.size
          have j0 : (0 : Int) ≤ (q : Int) := by omega
          have hw2 : IntKind.i64.wrap ((q : Int) - 1) = (q : Int) - 1 := IntWalk.i64_in _ ⟨by omega, by omega⟩
          clear hub hz hb hs ho e1
          generalize Bs.settle n 5 g q = F at *
          have hszF := huA_size F n
          go_wp2_with (first | (refine hu_load rfl _ rfl (w.heap.size + 1) g n rfl HUB.out ?_))
          with_reducible refine (C1.out _).mono ?_
          rintro e w6 ⟨rfl, hb6⟩
          have HU6 := Lib.hid (HUB.out.below hb6 HUB.out.lt)
          have HZ6 := Lib.hid (HZ.out.below hb6 HZ.out.lt)
          have HB6 := Lib.hid (HB.out.trans (hb6.mono sr))
          clear hb6 C1
          go_wp2_with (first
            | (refine hu_store rfl _ _ rfl (w.heap.size + 1) g F n n rfl rfl HU6.out ?_; intro w8 h8 o8; have H8 := Lib.hid h8; have HZ8 := Lib.hid (o8.ub HZ6.out (by omega)); have HB8 := Lib.hid (HB6.out.trans (o8.below (Nat.le_succ _))); clear h8 o8))
          go_roundw
          case rel => exact ⟨q, F, by omega, by first | rfl | rw [hw2], H8.out, HZ8.out, HNS.out, HN.out, HB8.out⟩
          case measure => simp [intOf]; try omega
set_option maxHeartbeats 1600000 in
theorem NextUser_any (A : Option Addr) (c : Nat) (l : List Bs.U) (lo hi : Nat) (w : World) (h : RU w lo hi A l) (hh : hi ≤ w.heap.size) (hl : l.length ≤ 9223372036854775807) :
    Calls Try.prog 15 #[.slice A l.length c] w fun e w' => e = .returned (.int .i64 (Bs.nextL l)) ∧ Below w.heap.size w w' := by
  have q1 := ValidUsers_any A c l lo hi w h hh hl
  cases hu : Bs.usersOk l
  · rw [hu] at q1
    have C1 := Lib.hid q1
    have HV := Lib.hid (Bs.nextL_no hu)
    clear q1 hu h
    go_enter Try.func15, Try.ntmps15
    go_wp2_with fail
    with_reducible refine (C1.out).mono ?_
    rintro e w1 ⟨rfl, hb⟩
    have HB := Lib.hid hb
    clear hb
    go_wp2
    go_ret
    exact ⟨ret_int HV.out.symm, HB.out⟩
  · rw [hu] at q1
    have C1 := Lib.hid q1
    have C2 := Lib.hid (fun W (hb : Below w.heap.size w W) => waitingUsers_any A c l lo hi W (h.below hb hh) (Nat.le_trans hh hb.size) hu)
    have HN := Lib.hid (fun f n (hH : HeapOf l f n) => hH.1.next hH.2 hu)
    have HV := Lib.hid (Bs.nextL_yes hu)
    clear q1 hu h
    go_enter Try.func15, Try.ntmps15
    go_wp2_with fail
    with_reducible refine (C1.out).mono ?_
    rintro e w1 ⟨rfl, hb⟩
    have HB := Lib.hid hb
    clear hb
    go_wp2_with fail
    with_reducible refine (C2.out _ HB.out).mono ?_
    rintro e w2 ⟨⟨f, n, rfl, hH, hn⟩, hb2⟩
    have HB2 := Lib.hid (HB.out.trans (hb2.mono HB.out.size))
    have hnx := HN.out f n hH
    have HZ := Lib.hid (z5New w2)
    have hsz := huA_size f n
    clear hb2 C1 C2 hH HN
    by_cases h0 : n = 0
    · subst h0
      have HE := Lib.hid (show Bs.nextL l = -1 from by rw [HV.out, hnx]; rfl)
      have d1 : (((0 : Nat) : Int) == 0) = true := rfl
      clear hnx HV
      go_wp2_with (first
        | (refine hu_store rfl _ _ rfl w2.heap.size z5 f 0 (0 : Nat) rfl rfl HZ.out ?_; intro w5 h5 o5; have k20 := h5.n; have HB5 := Lib.hid ((HB2.out.alloc HB2.out.size _).trans (o5.below HB2.out.size)); clear h5 o5))
      go_ret
      exact ⟨ret_int HE.out.symm, HB5.out⟩
    · rw [if_neg h0] at hnx
      have HE := Lib.hid (show Bs.nextL l = (f 0).at_ from by rw [HV.out, hnx])
      have d1 : ((n : Int) == 0) = false := by rw [beq_eq_false_iff_ne]; omega
      clear hnx HV
      go_wp2_with (first
        | (refine hu_store rfl _ _ rfl w2.heap.size z5 f 0 n rfl rfl HZ.out ?_; intro w5 h5 o5; have k20 := h5.n; have k0 := h5.c0z; have HB5 := Lib.hid ((HB2.out.alloc HB2.out.size _).trans (o5.below HB2.out.size)); clear h5 o5))
      go_ret
      exact ⟨ret_int HE.out.symm, HB5.out⟩
theorem OI.ne_ub {w : World} {B b c : Nat} {A : Option Addr} {l : List Int} {f : Nat → Bs.H} {n : Int} (ho : OI w B A c l) (hu : UB w b f n) : some b ≠ (Value.slice A l.length c).ownBlock := by
  rcases ho.2 with ⟨hv, _⟩ | ⟨g, cap, cur, hv, h1, hg, _⟩
  · rw [hv]; simp [Value.ownBlock]
  · rw [hv]
    intro e
    have e2 : b = g := by simpa [Value.ownBlock] using e
    subst e2
    unfold UB Blk at hu
    rw [hu] at hg
    cases hg
theorem OI.onlyU {w w' : World} {B b c : Nat} {A : Option Addr} {l : List Int} {f : Nat → Bs.H} {n : Int} (ho : OI w B A c l) (hu : UB w b f n) (h : OnlyB b w w') : OI w' B A c l := by
  refine ⟨ho.1, ?_⟩
  rcases ho.2 with hn | ⟨g, cap, cur, hv, h1, hg, rest⟩
  · exact .inl hn
  · refine .inr ⟨g, cap, cur, hv, h1, ?_, rest⟩
    rw [h.far g ?_]
    · exact hg
    · rintro rfl
      unfold UB Blk at hu
      rw [hu] at hg
      cases hg
theorem validTime_any (t : Int) (W : World) :
    Calls Try.prog 39 #[.int .i64 t] W fun e w' => e = .returned (.bool (decide (1 ≤ t ∧ t ≤ 20))) ∧ W = w' := by
  go_enter Try.func39, Try.ntmps39
  go_wp2
  all_goals go_ret
  all_goals exact ⟨ret_bool (by simp; try omega), rfl⟩
set_option maxRecDepth 20000 in
set_option maxHeartbeats 3200000 in
theorem ServeAll_any (A : Option Addr) (c : Nat) (l : List Bs.U) (t : Int) (lo hi : Nat) (w : World) (h : RU w lo hi A l) (hh : hi ≤ w.heap.size) (hl : l.length ≤ 9223372036854775807) :
    Calls Try.prog 21 #[.slice A l.length c, .int .i64 t] w (RetI w (Bs.seqL l t)) := by
  have q1 := ValidUsers_any A c l lo hi w h hh hl
  have q2 := fun W => validTime_any t W
  cases hu : Bs.usersOk l
  · rw [hu] at q1
    have C1 := Lib.hid q1
    have HV := Lib.hid (Bs.seqL_no (l := l) (t := t) (by unfold Bs.srvOk; rw [hu]; rfl))
    clear q1 q2 hu h
    go_enter Try.func21, Try.ntmps21
    go_wp2_with fail
    with_reducible refine (C1.out).mono ?_
    rintro e w1 ⟨rfl, hb⟩
    have HB := Lib.hid hb
    clear hb
    go_wp2
    go_ret
    exact RetI.nil HB.out HV.out
  · rw [hu] at q1
    have C1 := Lib.hid q1
    cases htt : decide (1 ≤ t ∧ t ≤ 20)
    · rw [htt] at q2
      have C2 := Lib.hid q2
      have HV := Lib.hid (Bs.seqL_no (l := l) (t := t) (by unfold Bs.srvOk; rw [htt]; simp))
      clear q1 q2 hu htt h
      go_enter Try.func21, Try.ntmps21
      go_wp2_with fail
      with_reducible refine (C1.out).mono ?_
      rintro e w1 ⟨rfl, hb⟩
      have HB := Lib.hid hb
      clear hb
      go_wp2_with fail
      with_reducible refine (C2.out _).mono ?_
      rintro e w2 ⟨rfl, rfl⟩
      go_wp2
      go_ret
      exact RetI.nil HB.out HV.out
    · rw [htt] at q2
      have C2 := Lib.hid q2
      have ht := of_decide_eq_true htt
      have HV := Lib.hid (Bs.seqL_yes (Bs.srvOk_iff.2 ⟨hu, ht⟩))
      have C3 := Lib.hid (fun W (hb : Below w.heap.size w W) => waitingUsers_any A c l lo hi W (h.below hb hh) (Nat.le_trans hh hb.size) hu)
      have HU := Lib.hid hu
      have HW30 := Lib.hid (Bs.wN_le hu)
      clear q1 q2 hu htt h
      go_enter Try.func21, Try.ntmps21
      go_wp2_with fail
      with_reducible refine (C1.out).mono ?_
      rintro e w1 ⟨rfl, hb⟩
      have HB := Lib.hid hb
      clear hb C1
      go_wp2_with fail
      with_reducible refine (C2.out _).mono ?_
      rintro e w2 ⟨rfl, rfl⟩
      have s1 := HB.out.size
      have HBe := Lib.hid (HB.out.alloc s1 (.cells #[] 3))
      have HOe := Lib.hid (OI.new w1 w.heap.size s1)
      have C4 := Lib.hid (C3.out _ HBe.out)
      clear C2 C3 HB
      go_wp2_with fail
      refine (C4.out).mono ?_
      rintro e w2 ⟨⟨f, n, rfl, hH, hn⟩, hb2⟩
      have HB2 := Lib.hid (HBe.out.trans (hb2.mono HBe.out.size))
      have HO2 := Lib.hid (HOe.out.below hb2 (Nat.le_refl _))
      have HH := Lib.hid hH
      have HZ := Lib.hid (z5New w2)
      have hsz := huA_size f n
      have s2 := HB2.out.size
      have hX2 := Below.alloc (Below.refl w2.heap.size w2) (Nat.le_refl _) (.cells #[.int .i64 0, .int .i64 0, .int .i64 0, .int .i64 0, .int .i64 0, .int .i64 0, .int .i64 0, .int .i64 0, .int .i64 0, .int .i64 0, .int .i64 0, .int .i64 0, .int .i64 0, .int .i64 0, .int .i64 0, .int .i64 0, .int .i64 0, .int .i64 0, .int .i64 0, .int .i64 0, .int .i64 0] 55)
      have HX2 := Lib.hid hX2
      clear hb2 C4 hH HBe HOe hX2
      go_wp2_with (first
        | (refine hu_store rfl _ _ rfl w2.heap.size z5 f 0 n rfl rfl HZ.out ?_; intro w5 h5 o5; have H5 := Lib.hid h5; have HX5 := Lib.hid (HX2.out.trans (o5.below (Nat.le_refl _))); clear h5 o5))
      have HB5 := Lib.hid (HB2.out.trans (HX5.out.mono s2))
      have HO5 := Lib.hid (HO2.out.below HX5.out (Nat.le_refl _))
      clear HX5 HX2 HZ HB2 HO2 hsz
      obtain ⟨ALL, hALL⟩ : ∃ ALL, ALL = Bs.seqC l t := ⟨_, rfl⟩
      have HALL := Lib.hid (show [] ++ Bs.seqC l t = ALL from by rw [hALL]; rfl)
      have HV2 := Lib.hid (show Bs.seqL l t = ALL from by rw [HV.out, hALL])
      have HAL := Lib.hid (show ALL.length ≤ 30 from by rw [hALL, Bs.seqC_len HU.out ht]; exact HW30.out)
      clear hALL HV HW30
      go_simp
      go_loopw [5] (fun v wr => ∃ (A5 : Option Addr) (c5 : Nat) (O : List Int) (lc : List Bs.U) (f : Nat → Bs.H) (n : Nat), v = .slice A5 O.length c5 ∧ OI wr w.heap.size A5 c5 O ∧ UB wr w2.heap.size f (n : Int) ∧ HeapOf lc f n ∧ n ≤ 5 ∧ Bs.usersOk lc = true ∧ O ++ Bs.seqC lc t = ALL ∧ Below w.heap.size w wr) (fun v _ => 31 - lenOf v)
      case atStart => exact ⟨_, _, [], l, f, n, rfl, HO5.out, H5.out, HH.out, hn, HU.out, HALL.out, HB5.out⟩
      case round =>
        clear HO5 H5 HH HU HALL HB5 hn
        obtain ⟨A5, c5, O, lc, f, n, rfl, ho, hub, hH, hn, hu, he, hb⟩ := hrel
        have hsz := huA_size f n
        have k20 := hub.n
        have hnx := hH.1.next hH.2 hu
        by_cases h0 : n = 0
        · subst h0
          rw [if_pos rfl] at hnx
          have heO : O = ALL := by rw [← he, Bs.seqC_end hu (by rw [hnx]; decide), List.append_nil]
          subst heO
          have HO := Lib.hid ho
          have HB := Lib.hid hb
          have d1 : decide (((0 : Nat) : Int) > 0) = false := by decide
          clear hub hH he hb ho hnx
          go_wp2
          go_ret
          rw [HV2.out]
          exact ⟨⟨A5, c5, rfl, HO.out⟩, HB.out⟩
        · rw [if_neg h0] at hnx
          have hn0 : 0 < n := by omega
          obtain ⟨m, hm, em, _⟩ := hH.1.of 0 hn0
          have hnn : 0 ≤ Bs.nextC lc := by rw [hnx, em]; show (0 : Int) ≤ (m : Int); omega
          have hstep := Bs.seqC_step (t := t) hu hnn
          rw [hstep, hnx] at he
          have hok2 := Bs.srvL_ok hu hnn ht
          have hH2 := Bs.hsF_hs (t := t) hH.1 hH.2 hu hn0
          have hO2 := Bs.hsF_ho (t := t) hH.2 hn
          have hle : Bs.hsN f n ≤ 5 := by unfold Bs.hsN; split <;> omega
          have C1 := Lib.hid (fun W => serveFirst_any f n t hn0 hn ht (fun j hj => hH.1.ok hu hj) (fun j hj => (Bs.hs2_hs (t := t) hH.1 hH.2 hu hn0).ok hok2 hj) W)
          have HN := Lib.hid (show HeapOf (Bs.srvL lc t) (Bs.hsF f n t) (Bs.hsN f n) from ⟨hH2, hO2⟩)
          have hlO : O.length + 1 ≤ 30 := by
            have h1 := congrArg List.length he
            rw [List.length_append, List.length_cons] at h1
            have := HAL.out
            omega
          have HE := Lib.hid (show (O ++ [(f 0).at_]) ++ Bs.seqC (Bs.srvL lc t) t = ALL from by rw [List.append_assoc]; exact he)
          have k0 := hub.c0z
          have d1 : (0 : Int) < (n : Int) := by omega
          have d2 : decide ((n : Int) > 0) = true := by simp; omega
          have sr := hb.size
          have hlb := hub.lt
          have HUB := Lib.hid hub
          have HO := Lib.hid ho
          have HB := Lib.hid hb
          have HOK := Lib.hid hok2
          have hNE := ho.ne_ub hub
          have HNE := Lib.hid hNE
          clear hub ho hb hH he hu hnx hnn hstep hok2 hH2 hO2 em hNE
          generalize Bs.hsF f n t = F at *
          generalize Bs.hsN f n = N at *
          generalize (f 0).at_ = x at *
          have hszF := huA_size F N
          go_wp2_with (first
            | (at_builtin; go_loud (refine push_int rfl _ _ rfl w.heap.size A5 c5 O x rfl (HO.out.alloc _) wr.heap.size 1 rfl (by simp [go_sem]) (by omega) (by simp; omega) ?_; intro A7 c7 w7 ho7 hb7 hg7; have hu7 : UB w7 w2.heap.size f (n : Int) := (hg7.block w2.heap.size (by simp; omega) HNE.out).trans (HUB.out.alloc (.cells #[.int .i64 x] 3)); have HU7 := Lib.hid hu7; have HO7 := Lib.hid ho7; have HB7 := Lib.hid ((HB.out.alloc sr _).trans hb7); clear hu7 ho7 hb7 hg7))
            | (refine hu_load rfl _ rfl w2.heap.size f n rfl HU7.out ?_))
          with_reducible refine (C1.out _).mono ?_
          rintro e w8 ⟨rfl, hb8⟩
          have HU8 := Lib.hid (HU7.out.below hb8 HU7.out.lt)
          have HO8 := Lib.hid (HO7.out.below hb8 (Nat.le_refl _))
          have HB8 := Lib.hid (HB7.out.trans (hb8.mono HB7.out.size))
          clear hb8 C1
          go_wp2_with (first
            | (refine hu_store rfl _ _ rfl w2.heap.size f F n N rfl rfl HU8.out ?_; intro w9 h9 o9; have H9 := Lib.hid h9; have HO9 := Lib.hid (HO8.out.onlyU HU8.out o9); have HB9 := Lib.hid (HB8.out.trans (o9.below s2)); clear h9 o9))
          simp only [Act.put]
          go_roundw
          case rel => exact ⟨A7, c7, O ++ [x], Bs.srvL lc t, F, N, by rw [List.length_append]; rfl, HO9.out, H9.out, HN.out, hle, HOK.out, HE.out, HB9.out⟩
          case measure => simp [lenOf]; omega
end Go.Proofs.Ytbmfhnijbdmjbaa
