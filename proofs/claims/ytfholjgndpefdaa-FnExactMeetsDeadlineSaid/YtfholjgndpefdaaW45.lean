/-
  WALKS: the order in which ready tasks are taken, of the program.
-/
import Derived.Test.YtfholjgndpefdaaW44
import Derived.Test.YtfholjgndpefdaaK7
namespace Go.Proofs.Ytfholjgndpefdaa
open Go.RowKit
theorem step_hp_load {ops : Array Oper} {o : Oper} {a : Act} {w : World} {K : Act → World → Prop} {Q : Exit → Act → World → Prop} {E : Prop} (hgd : o.guard = none) (x : Operand) (ho : o.op = .load 109 x)
    (b : Nat) (f : Nat → Int × Int) (n : Int) (hx : a.eval x = .pointer (some ⟨b, 0, none⟩)) (hb : HB w b f n) (h : K (a.put o.dst (.agg (hpA f n))) w) :
    if Region.wanted o (yielded ops a.tmps) = true then Oper.wp Try.prog o a w K Q else E := by
  have hw : Region.wanted o (yielded ops a.tmps) = true := by simp [Region.wanted, hgd]
  rw [if_pos hw]
  exact wp_load_row 109 x ho b hx 109 (hpA f n) (0, 0) _ hb Try.underlying109 rfl hpSize h
theorem step_hp_store {ops : Array Oper} {o : Oper} {a : Act} {w : World} {K : Act → World → Prop} {Q : Exit → Act → World → Prop} {E : Prop} (hgd : o.guard = none) (x y : Operand) (ho : o.op = .store 109 x y)
    (b : Nat) (f f' : Nat → Int × Int) (n n' : Int) (hx : a.eval x = .pointer (some ⟨b, 0, none⟩)) (hy : a.eval y = .agg (hpA f' n')) (hb : HB w b f n)
    (h : ∀ w', HB w' b f' n' → OnlyB b w w' → K (a.put o.dst undef) w') :
    if Region.wanted o (yielded ops a.tmps) = true then Oper.wp Try.prog o a w K Q else E := by
  have hw : Region.wanted o (yielded ops a.tmps) = true := by simp [Region.wanted, hgd]
  rw [if_pos hw]
  exact wp_store_row 109 x y ho b (hpA f' n') hx hy 109 (hpA f n) hb hpSize rfl (hpOne _ _) (h _ (setRow_only w b f f' n n' hb).1 (setRow_only w b f f' n n' hb).2)
set_option maxRecDepth 40000 in
set_option maxHeartbeats 800000 in
theorem ReadyOrder_any (A : Option Addr) (c : Nat) (g : List Bs.T) (A' : Option Addr) (c' : Nat) (d : List Int) (lo hi lo' hi' : Nat) (w : World) (h : RG w lo hi A g) (hh : hi ≤ w.heap.size) (h' : RI w lo' hi' A' d) (hh' : hi' ≤ w.heap.size) (hl : g.length ≤ 9223372036854775807) (hd : d.length ≤ 9223372036854775807) :
    Calls Try.prog 99 #[.slice A g.length c, .slice A' d.length c'] w (RetI w (Bs.ordL g d)) := by
  have c1 := ValidDone_any A c g A' c' d lo hi lo' hi' w h hh h' hh' hl hd
  cases hv : Bs.vdone g d
  · rw [hv] at c1
    have C1 := Lib.hid c1
    have HV := Lib.hid (Bs.ordL_no hv)
    clear c1 hv h h'
    go_enter Try.func99, Try.ntmps99
    go_wp2_with fail
    with_reducible refine (C1.out).mono ?_
    rintro e w1 ⟨rfl, hb⟩
    have HBq := Lib.hid hb
    clear hb
    go_wp2
    go_ret
    exact RetI.nil HBq.out HV.out
  · have hg := Bs.vdone_valid hv
    have hF := valid_fine hg
    have h8 := Bs.fine_len hF
    have c2 := fun W (hb : Below w.heap.size w W) => TailTimes_any A c g lo hi W (h.below hb hh) (Nat.le_trans hh hb.size) hl
    rw [hg] at c2
    simp only [if_true] at c2
    have c3 := fun W (hb : Below w.heap.size w W) => ReadyTasks_any A c g A' c' d lo hi lo' hi' W (h.below hb hh) (Nat.le_trans hh hb.size) (h'.below hb hh') (Nat.le_trans hh' hb.size) hl hd
    rw [readyL_yes hv] at c3
    have htl := tails_len hg
    have HTL := Lib.hid htl
    have HRI := Lib.hid (fun x hx => Bs.ready_in (g := g) (d := d) (x := x) hx)
    have HND := Lib.hid (Bs.pick_nodup (Bs.okNext g d) g.length)
    have hrl := Bs.readyC_len g d
    have HE := Lib.hid (fun o hs hm => Bs.ord_eq (o := o) (d := d) hF hs hm)
    have HV := Lib.hid (Bs.ordL_yes hv)
    rw [hv] at c1
    obtain ⟨T, hT⟩ : ∃ T, T = Bs.tailsC g := ⟨_, rfl⟩
    obtain ⟨R, hR⟩ : ∃ R, R = Bs.readyC g d := ⟨_, rfl⟩
    have hnd : R.Nodup := by rw [hR]; exact HND.out
    have HND := Lib.hid hnd
    rw [← hT] at c2 HTL HE
    rw [← hR] at c3 hrl HE HRI
    have C1 := Lib.hid c1
    have C2 := Lib.hid c2
    have C3 := Lib.hid c3
    clear c1 c2 c3 hv h h' hF hg htl hT hR hnd
    go_enter Try.func99, Try.ntmps99
    go_wp2_with fail
    with_reducible refine (C1.out).mono ?_
    rintro e w1 ⟨rfl, hb⟩
    have HBq := Lib.hid hb
    have s1 := hb.size
    clear hb
    go_wp2_with fail
    with_reducible refine (C2.out _ HBq.out).mono ?_
    rintro e w2 ⟨⟨A2, c2, rfl, ho2⟩, hb2⟩
    have HB2 := Lib.hid (HBq.out.trans (hb2.mono s1))
    have HO2 := Lib.hid ho2.ri
    have s2 := HB2.out.size
    clear ho2 hb2 C1 C2
    go_wp2_with fail
    have hb3 := HB.new w2 zp 0
    have HB3 := Lib.hid (HB2.out.alloc s2 (.cells (hpA zp 0) 109))
    have C4 := Lib.hid (C3.out _ HB3.out)
    refine (C4.out).mono ?_
    rintro e w4 ⟨⟨A4, c4, rfl, ho4⟩, hb4⟩
    have HH4 := Lib.hid (hb3.below hb4 (by simp))
    have HR4 := Lib.hid (show RI w4 (w2.heap.size + 1) w4.heap.size A4 R from by have := ho4.ri; rw [World.size_alloc] at this; exact this)
    have HT4 := Lib.hid ((HO2.out.keep (w' := w2.alloc (.cells (hpA zp 0) 109)) fun p _ hp => World.cell?_alloc_lt w2 _ p hp).below hb4 (by simp))
    have HB4 := Lib.hid (HB3.out.trans (hb4.mono HB3.out.size))
    have s4 : w2.heap.size + 1 ≤ w4.heap.size := by have := hb4.size; rw [World.size_alloc] at this; exact this
    clear hb3 ho4 hb4 C3 C4 HO2
    go_wp2
    go_loopw [21] (fun i wr => ∃ (k : Nat) (f : Nat → Int × Int), k ≤ R.length ∧ i = .int .i64 k ∧ HB wr w2.heap.size f k ∧ Bs.HS T f k (R.take k) ∧ (∀ i, i < 8 → 0 ≤ (f i).1 ∧ (f i).1 < 8) ∧ RI wr w1.heap.size w2.heap.size A2 T ∧ RI wr (w2.heap.size + 1) w4.heap.size A4 R ∧ w4.heap.size ≤ wr.heap.size ∧ Below w.heap.size w wr) (fun i _ => R.length - (intOf i).toNat)
    case atStart => exact ⟨0, zp, Nat.zero_le _, rfl, HH4.out, Bs.HS.nil T zp, fun i _ => by simp [zp], HT4.out, HR4.out, Nat.le_refl _, HB4.out⟩
    case round =>
      obtain ⟨k, f, hk, rfl, hh6, hs, hf, ht, hr, hsz, hb⟩ := hrel
      have HH := Lib.hid hh6
      have HS := Lib.hid hs
      have HF := Lib.hid hf
      have HT := Lib.hid ht
      have HR := Lib.hid hr
      have HB6 := Lib.hid hb
      have sb6 := hh6.lt
      by_cases hlt : k < R.length
      · obtain ⟨br, or_, rfl, _, _, hc⟩ := hr.at_ hlt
        have hx := HRI.out _ (List.getElem_mem hlt)
        have HNX := Lib.hid (show R[k] ∉ R.take k from by
          intro hmem
          obtain ⟨i, hi, e⟩ := List.mem_iff_getElem.1 hmem
          rw [List.length_take] at hi
          rw [List.getElem_take] at e
          exact (List.pairwise_iff_getElem.1 (List.nodup_iff_pairwise_ne.1 HND.out)) i k (by omega) hlt (by omega) e)
        have HTK := Lib.hid (show R.take (k + 1) = R.take k ++ [R[k]] from List.take_succ_eq_append_getElem hlt)
        obtain ⟨v, hv⟩ : ∃ v : Nat, R[k] = (v : Int) := ⟨R[k].toNat, by omega⟩
        rw [hv] at hc hx HNX HTK
        have hvT : v < T.length := by have := HTL.out; omega
        obtain ⟨bt, ot, rfl, _, hbt, hct⟩ := ht.at_ hvT
        have hgi := gi_at hvT
        have c5 : ∀ W, Calls Try.prog 119 #[.agg (hpA f k), .agg #[.int .i64 (v : Int), .int .i64 T[v]]] W fun e w' => (∃ M, e = .returned (.agg (hpA M ((k : Int) + 1))) ∧ Bs.Heap M (k + 1) ∧ Bs.Rel (k + 1) (Bs.upd f k ((v : Int), T[v])) M ∧ ∀ i, i < 8 → 0 ≤ (M i).1 ∧ (M i).1 < 8) ∧ Below W.heap.size W w' := fun W => with_any f k ((v : Int), T[v]) hf (by show 0 ≤ (v : Int) ∧ (v : Int) < 8; omega) hs.heap (by omega) W
        have C5 := Lib.hid c5
        have HGI := Lib.hid hgi
        have i0 : (0 : Int) ≤ (v : Int) := by omega
        have i1 : (v : Int) < (T.length : Int) := by omega
        have hbtw : bt < wr.heap.size := by omega
        generalize T[v] = x at *
        clear hh6 hs hf ht hr hb c5 hgi hv
        go_wp2_with fail
        refine wp_region_any (by kernel_rfl) ?_
        change wpAny _ _ _ _ _ _ _ (World.drew _)
        refine wpAny_take (i := 1) (v := ?_) rfl (by kernel_rfl) (by kernel_rfl) (by kernel_rfl) (fun _ _ _ h => h) (Or.inl ⟨by rfl, ?_⟩) ?_
        rotate_left
        · intro w
          go_simp
          with_reducible rfl
        refine wpAny_take (i := 2) (v := ?_) rfl (by kernel_rfl) (by kernel_rfl) (by kernel_rfl) (fun _ _ _ h => h) (Or.inl ⟨by rfl, ?_⟩) ?_
        rotate_left
        · intro w
          go_simp
          with_reducible rfl
        refine wpAny_take (i := 3) (v := ?_) rfl (by kernel_rfl) (by kernel_rfl) (by kernel_rfl) (fun _ _ _ h => h) (Or.inl ⟨by rfl, ?_⟩) ?_
        rotate_left
        · intro w
          go_simp
          with_reducible rfl
        refine wpAny_take (i := 4) (v := ?_) rfl (by kernel_rfl) (by kernel_rfl) (by kernel_rfl) (fun _ _ _ h => h) (Or.inl ⟨by rfl, ?_⟩) ?_
        rotate_left
        · intro w
          go_simp
          with_reducible rfl
        refine wpAny_ready (rs := [0, 5]) (by kernel_rfl) (by simp) ?_
        refine AllReady.cons rfl (fun K hK => ?_) (AllReady.cons rfl (fun K hK => ?_) AllReady.nil)
        · refine step_hp_load rfl _ rfl w2.heap.size f (k : Int) rfl (HH.out.drewN 1) ?_
          try go_simp
          refine hK _ _ ?_
          clear hK K
          refine wpAny_ready (rs := [5]) (by kernel_rfl) (by simp) ?_
          refine AllReady.cons rfl (fun K hK => ?_) ?_
          rotate_left
          exact AllReady.nil
          go_simp
          refine hK _ _ ?_
          clear hK K
          refine wpAny_take (i := 6) (v := ?_) rfl (by kernel_rfl) (by kernel_rfl) (by kernel_rfl) (fun _ _ _ h => h) (Or.inl ⟨by rfl, ?_⟩) ?_
          rotate_left
          · intro w
            go_simp
            with_reducible rfl
          refine wpAny_ready (rs := [7]) (by kernel_rfl) (by simp) ?_
          refine AllReady.cons rfl (fun K hK => ?_) ?_
          rotate_left
          exact AllReady.nil
          go_simp
          go_at_call 119
          refine (C5.out _).mono ?_
          rintro e w5 ⟨⟨M, rfl, hM1, hM2, hM3⟩, hb5⟩
          have hb5' : Below wr.heap.size wr w5 := ((Below.refl _ wr).drewN 1).trans hb5
          clear hb5
          try go_simp
          refine hK _ _ ?_
          clear hK K
          refine wpAny_ready (rs := [8]) (by kernel_rfl) (by simp) ?_
          refine AllReady.cons rfl (fun K hK => ?_) ?_
          rotate_left
          exact AllReady.nil
          refine step_hp_store rfl _ _ rfl w2.heap.size f M (k : Int) ((k : Int) + 1) rfl rfl (HB.below HH.out hb5' sb6) ?_
          intro w9 hh9 ho9
          try go_simp
          refine hK _ _ ?_
          clear hK K
          refine wpAny_done (by kernel_rfl) ?_ _
          have s5 := hb5'.size
          have hs9 : w9.heap.size = w5.heap.size := ho9.size
          have HT9 := Lib.hid (ho9.ri (HT.out.below hb5' (by omega)) (.inl (Nat.le_refl _)))
          have HR9 := Lib.hid (ho9.ri (HR.out.below hb5' hsz) (.inr (Nat.lt_succ_self _)))
          have HB9 := Lib.hid ((HB6.out.trans (hb5'.mono HB6.out.size)).trans (ho9.below s2))
          have HS9 := Lib.hid (show Bs.HS T M (k + 1) (R.take (k + 1)) from by
            rw [HTK.out]
            refine HS.out.push HNX.out ?_ hM1
            rw [Int.toNat_natCast, HGI.out]
            exact hM2)
          have HH9 := Lib.hid hh9
          clear hb5' ho9 hh9 hM1 hM2
          go_wp2
          go_roundw
          case rel => exact ⟨k + 1, M, by omega, by go_num, by have := HH9.out; simpa using this, HS9.out, hM3, HT9.out, HR9.out, by omega, HB9.out⟩
          case measure => simp [intOf]; omega
        · go_simp
          refine hK _ _ ?_
          clear hK K
          refine wpAny_take (i := 6) (v := ?_) rfl (by kernel_rfl) (by kernel_rfl) (by kernel_rfl) (fun _ _ _ h => h) (Or.inl ⟨by rfl, ?_⟩) ?_
          rotate_left
          · intro w
            go_simp
            with_reducible rfl
          refine wpAny_ready (rs := [0]) (by kernel_rfl) (by simp) ?_
          refine AllReady.cons rfl (fun K hK => ?_) ?_
          rotate_left
          exact AllReady.nil
          refine step_hp_load rfl _ rfl w2.heap.size f (k : Int) rfl (HH.out.drewN 1) ?_
          try go_simp
          refine hK _ _ ?_
          clear hK K
          refine wpAny_ready (rs := [7]) (by kernel_rfl) (by simp) ?_
          refine AllReady.cons rfl (fun K hK => ?_) ?_
          rotate_left
          exact AllReady.nil
          go_simp
          go_at_call 119
          refine (C5.out _).mono ?_
          rintro e w5 ⟨⟨M, rfl, hM1, hM2, hM3⟩, hb5⟩
          have hb5' : Below wr.heap.size wr w5 := ((Below.refl _ wr).drewN 1).trans hb5
          clear hb5
          try go_simp
          refine hK _ _ ?_
          clear hK K
          refine wpAny_ready (rs := [8]) (by kernel_rfl) (by simp) ?_
          refine AllReady.cons rfl (fun K hK => ?_) ?_
          rotate_left
          exact AllReady.nil
          refine step_hp_store rfl _ _ rfl w2.heap.size f M (k : Int) ((k : Int) + 1) rfl rfl (HB.below HH.out hb5' sb6) ?_
          intro w9 hh9 ho9
          try go_simp
          refine hK _ _ ?_
          clear hK K
          refine wpAny_done (by kernel_rfl) ?_ _
          have s5 := hb5'.size
          have hs9 : w9.heap.size = w5.heap.size := ho9.size
          have HT9 := Lib.hid (ho9.ri (HT.out.below hb5' (by omega)) (.inl (Nat.le_refl _)))
          have HR9 := Lib.hid (ho9.ri (HR.out.below hb5' hsz) (.inr (Nat.lt_succ_self _)))
          have HB9 := Lib.hid ((HB6.out.trans (hb5'.mono HB6.out.size)).trans (ho9.below s2))
          have HS9 := Lib.hid (show Bs.HS T M (k + 1) (R.take (k + 1)) from by
            rw [HTK.out]
            refine HS.out.push HNX.out ?_ hM1
            rw [Int.toNat_natCast, HGI.out]
            exact hM2)
          have HH9 := Lib.hid hh9
          clear hb5' ho9 hh9 hM1 hM2
          go_wp2
          go_roundw
          case rel => exact ⟨k + 1, M, by omega, by go_num, by have := HH9.out; simpa using this, HS9.out, hM3, HT9.out, HR9.out, by omega, HB9.out⟩
          case measure => simp [intOf]; omega
      · obtain rfl : k = R.length := by omega
        rw [List.take_length] at hs
        have hO0 := OI.new wr (w2.heap.size + 1) (by omega)
        have HO0 := Lib.hid hO0
        have HHA := Lib.hid (hh6.alloc (.cells #[] 3))
        have HBA := Lib.hid (hb.alloc hb.size (.cells #[] 3))
        have HS0 := Lib.hid hs
        clear hh6 hs hf ht hr hb hO0 HT HR HH
        go_wp2
        go_loopw [9] (fun vo wr => ∃ (n : Nat) (f : Nat → Int × Int) (o S : List Int) (A5 : Option Addr) (c5 : Nat), n ≤ 8 ∧ vo = .slice A5 o.length c5 ∧ HB wr w2.heap.size f n ∧ Bs.HS T f n S ∧ Bs.Taken T R o S ∧ (∀ i, i < 8 → 0 ≤ (f i).1 ∧ (f i).1 < 8) ∧ OI wr (w2.heap.size + 1) A5 c5 o ∧ Below w.heap.size w wr ∧ w2.heap.size + 1 ≤ wr.heap.size) (fun vo _ => R.length - lenOf vo)
        case atStart => exact ⟨R.length, f, [], R, _, _, by omega, rfl, HHA.out, HS0.out, Bs.Taken.start T (fun _ => Iff.rfl), HF.out, HO0.out, HBA.out, by simp; omega⟩
        case round =>
          clear HO0 HHA HBA HS0 HF HS HB6
          obtain ⟨n, f, o, S, A5, c5, hn8, rfl, hh6, hs, hta, hf, ho, hb, hsz2⟩ := hrel
          have HH := Lib.hid hh6
          have HS := Lib.hid hs
          have HF := Lib.hid hf
          have HO := Lib.hid ho
          have HT := Lib.hid hta
          have HB6 := Lib.hid hb
          have sb6 := hh6.lt
          have k16 := hh6.n
          have hlo : o.length ≤ R.length := Bs.nodup_le (Bs.pair_nodup hta.sorted) (fun x hx => (hta.mem x).2 (.inl hx))
          by_cases hn : n = 0
          · subst hn
            have HEO := Lib.hid (HE.out o hta.sorted (fun x => by
              rw [hta.mem x]
              constructor
              · exact .inl
              · rintro (h | h)
                · exact h
                · obtain ⟨i, hi, _⟩ := (hs.mem _).2 ⟨x, h, rfl⟩
                  omega))
            clear hh6 hs hta hf ho hb
            go_wp2
            go_ret
            rw [HV.out, ← HEO.out]
            exact ⟨⟨A5, c5, rfl, HO.out.base (by omega)⟩, HB6.out⟩
          · obtain ⟨m, rfl⟩ : ∃ m, n = m + 1 := ⟨n - 1, by omega⟩
            have hSR : ∀ x ∈ S, 0 ≤ x ∧ x < 8 := fun x hx => by have := HRI.out x ((hta.mem x).2 (.inr hx)); omega
            obtain ⟨ha1, ha2, ha3⟩ := hs.first hSR
            have hnext := hta.next ha1 ha3
            have hlo2 : (o ++ [(f 0).1]).length ≤ R.length := Bs.nodup_le (Bs.pair_nodup hnext.sorted) (fun x hx => (hnext.mem x).2 (.inl hx))
            rw [List.length_append, List.length_singleton] at hlo2
            have HNX := Lib.hid hnext
            have k0 := hh6.fst (i := 0) (by omega)
            simp only [Nat.zero_mul] at k0
            have hcast : ((m + 1 : Nat) : Int) = (m : Int) + 1 := by omega
            rw [hcast] at HH k16 hh6
            have C5 := Lib.hid (fun W => withoutFirst_any f m hf hs.heap (by omega) W)
            have hm0 : (0 : Int) < (m : Int) + 1 := by omega
            have HOa := Lib.hid (ho.alloc (.cells #[.int .i64 (f 0).1] 3))
            have HHa := Lib.hid (hh6.alloc (.cells #[.int .i64 (f 0).1] 3))
            have HBa := Lib.hid (hb.alloc hb.size (.cells #[.int .i64 (f 0).1] 3))
            clear hh6 hs hta hf ho hb hnext ha1 ha2 ha3 hSR hcast
            go_wp2_with (first
              | (at_builtin; refine push_int rfl _ _ rfl (w2.heap.size + 1) A5 c5 o (f 0).1 rfl HOa.out wr.heap.size 1 rfl (by simp [go_sem]) (by omega) (by simp; omega) ?_; intro A6 c6 w6 ho6 hb6 _; have HH6 := Lib.hid (HHa.out.below hb6 (Nat.lt_succ_self _)); have HO6 := Lib.hid ho6; have HB7 := Lib.hid (HBa.out.trans (hb6.mono (by omega))); have s6 := hb6.size; rw [World.size_alloc] at s6; clear ho6 hb6)
              | (refine hp_load rfl _ rfl w2.heap.size f ((m : Int) + 1) rfl HH6.out ?_))
            with_reducible refine (C5.out _).mono ?_
            rintro e w7 ⟨⟨M, rfl, hM1, hM2, hM3⟩, hb7⟩
            have HH7 := Lib.hid (HH6.out.below hb7 HH6.out.lt)
            have HO7 := Lib.hid (HO6.out.below hb7 (Nat.le_refl _))
            have HB8 := Lib.hid (HB7.out.trans (hb7.mono HB7.out.size))
            have s7 := hb7.size
            have HS7 := Lib.hid (HS.out.pop hM2 hM1)
            clear hb7 hM1 hM2 C5
            go_wp2_with (first | (refine hp_store rfl _ _ rfl w2.heap.size f M ((m : Int) + 1) (m : Int) rfl rfl HH7.out ?_; intro w9 hh9 ho9))
            have HH9 := Lib.hid hh9
            have HO9 := Lib.hid (ho9.oi HO7.out (Nat.lt_succ_self _))
            have HB9 := Lib.hid (HB8.out.trans (ho9.below s2))
            have hs9 : w9.heap.size = w7.heap.size := ho9.size
            clear hh9 ho9
            go_wp2
            refine ⟨⟨_, _, _, _, _, _, _, _, _, _, _, _, _, ⟨m, M, o ++ [(f 0).1], _, A6, c6, by omega, by rw [List.length_append]; rfl, HH9.out, HS7.out, HNX.out, hM3, HO9.out, HB9.out, by omega⟩, rfl⟩, ?_⟩
            simp [lenOf, Act.put]
            omega
end Go.Proofs.Ytfholjgndpefdaa
