/-
  WALKS: useless needs of the program.
-/
import Derived.Test.YtoaakidapgbhhaaMath133
import Derived.Test.YtoaakidapgbhhaaMem12
import Derived.Test.YtoaakidapgbhhaaK5
namespace Go.Proofs.Ytoaakidapgbhhaa
open Go.RowKit
set_option maxHeartbeats 1600000 in
theorem uselessOf_any (A : Option Addr) (c : Nat) (g : List Bs.T) (bs : Nat) (ss : List Nat) (a : Nat) (lo hi : Nat) (w : World) (h : RG w lo hi A g) (hv : Bs.valid g = true) (hm : Bs.SetsMid g (Bs.top g).length ss) (hB : Blk w bs 45 (setsA ss)) (ha : a < g.length) :
    Calls Try.prog 49 #[.slice A g.length c, .slice (some ⟨bs, 0, none⟩) g.length g.length, .int .i64 (a : Int)] w fun e w' => e = .returned (.int .u64 (Bs.bits (Bs.uslL g a) : Nat)) ∧ w = w' := by
  have hF := valid_fine hv
  have h8 := Bs.fine_len hF
  obtain ⟨b, o, N, cN, rfl, h1, h2, _, q1, _, _, hlN, hcN, hN⟩ := h a ha
  have n8 := Lib.hid (Bs.need_eight hF ha)
  have C3 := Lib.hid (setOf_any N cN g[a].needs _ _ w hN (by omega) n8.out)
  have HN := Lib.hid (Bs.need_eq ha)
  have hsl := hm.len
  have HS := Lib.hid hm
  have HF := Lib.hid hF
  have HAND := Lib.hid (show bits .and .u64 ((Bs.bits g[a].needs : Nat) : Int) ((Bs.othK g ss a g[a].needs.length : Nat) : Int) = ((Bs.bits (Bs.uslL g a) : Nat) : Int) from by
    have e1 := Bs.bits_lt _ n8.out
    have e2 := Bs.othK_lt (a := a) hF hm.lt g[a].needs.length
    have e3 := Bs.oth_usl (a := a) hv hm
    rw [HN.out] at e3
    rw [bits_and_u64_nat _ _ (by omega) (by omega), e3])
  have j0 : (0 : Int) ≤ (a : Int) := by omega
  have j1 : (a : Int) < (g.length : Int) := by omega
  clear hF hm hv
  go_enter Try.func49, Try.ntmps49
  go_wp2
  go_loop [7, 16] (fun s j => ∃ p : Nat, p ≤ g[a].needs.length ∧ j = .int .i64 p ∧ s = .int .u64 (Bs.othK g ss a p : Nat)) (fun _ j => g[a].needs.length - (intOf j).toNat)
  case atStart => exact ⟨0, Nat.zero_le _, rfl, rfl⟩
  case round =>
    obtain ⟨p, hp, rfl, rfl⟩ := hrel
    by_cases hlt2 : p < g[a].needs.length
    · obtain ⟨b3, o3, rfl, _, _, hc3⟩ := hN.at_ hlt2
      obtain ⟨x, hx⟩ : ∃ x : Nat, g[a].needs[p] = (x : Int) := ⟨g[a].needs[p].toNat, by have := n8.out _ (List.getElem_mem hlt2); omega⟩
      have hxl := Bs.fine_need HF.out (i := a) (x := g[a].needs[p]) (by rw [HN.out]; exact List.getElem_mem hlt2)
      have hpl : p < (Bs.need g a).length := by rw [HN.out]; exact hlt2
      have hJ := Bs.othK_succ g ss a p hpl
      have he : (Bs.need g a)[p] = (x : Int) := by simp only [HN.out]; exact hx
      rw [he, Int.toNat_natCast] at hJ
      rw [hx] at hc3 hxl
      have hxg : x < g.length := by omega
      have hcx := (hB.cell x).trans (setsA_get (show x < ss.length by omega))
      have hlt3 := HS.out.lt x hxg
      have hjl := Bs.othK_lt (g := g) (ss := ss) (a := a) HF.out HS.out.lt p
      have HJ := Lib.hid hJ
      have HO := Lib.hid (bits_or_u64_nat (Bs.othK g ss a p) (ss.getD x 0) (by omega) (by omega))
      clear hx he hJ hxl
      generalize Bs.othK g ss a p = jn at *
      generalize ss.getD x 0 = sx at *
      go_wp2
      go_round
      case rel => exact ⟨p + 1, by omega, by go_num, by rw [HJ.out, HO.out]⟩
      case measure => simp [intOf]; omega
    · obtain rfl : p = g[a].needs.length := by omega
      have hand := HAND.out
      go_wp2_with (go_at_call 45; refine (C3.out).mono ?_; rintro e w' ⟨rfl, rfl⟩)
      go_ret
      exact ⟨rfl, rfl⟩
theorem needs_sets {g : List Bs.T} (hv : Bs.valid g = true) (a : Nat) : (Bs.uslL g a).length ≤ 8 := Bs.uslL_len (valid_fine hv) a
set_option maxHeartbeats 3200000 in
theorem UselessNeeds_any (A : Option Addr) (c : Nat) (g : List Bs.T) (lo hi : Nat) (w : World) (h : RG w lo hi A g) (hh : hi ≤ w.heap.size) (hl : g.length ≤ 9223372036854775807) :
    Calls Try.prog 25 #[.slice A g.length c] w (RetSC w (Bs.pairL g)) := by
  have q1 := ValidGraph_any A c g lo hi w h hh hl
  cases hv : Bs.valid g
  · rw [hv] at q1
    have C1 := Lib.hid q1
    have HV := Lib.hid (Bs.pairL_no hv)
    clear q1 hv h
    go_enter Try.func25, Try.ntmps25
    go_wp2_with fail
    with_reducible refine (C1.out).mono ?_
    rintro e w1 ⟨rfl, hb⟩
    have HB := Lib.hid hb
    clear hb
    go_wp2
    go_ret
    exact RetSC.nil HB.out HV.out
  rw [hv] at q1
  have C1 := Lib.hid q1
  have hF := valid_fine hv
  have h8 := Bs.fine_len hF
  have C2 := Lib.hid (fun W (hb : Below w.heap.size w W) => allNeedSets_any A c g lo hi W (h.below hb hh) (Nat.le_trans hh hb.size) hF)
  have C3 := Lib.hid (fun bs ss (a : Nat) W (hb : Below w.heap.size w W) hm hB ha => uselessOf_any A c g bs ss a lo hi W (h.below hb hh) hv hm hB ha)
  have C4 := Lib.hid (fun (a : Nat) W => show Calls Try.prog 43 #[.int .u64 (Bs.bits (Bs.uslL g a) : Nat)] W (RetI W (Bs.uslL g a)) from by
    have q := listOf_any (Bs.bits (Bs.uslL g a)) W (Bs.bits_lt _ (Bs.usl_eight hF a))
    rw [Bs.bits_list (Bs.usl_asc hF a) (Bs.usl_eight hF a)] at q
    exact q)
  have HL8 := Lib.hid (fun a => Bs.uslL_len hF a)
  have HPS := Lib.hid (fun k => Bs.pairK_succ g k)
  have HPL := Lib.hid (fun k => Bs.pairK_len hF k)
  have HE := Lib.hid (Bs.pairL_yes hv)
  clear q1 hv h hF
  go_enter Try.func25, Try.ntmps25
  go_wp2_with fail
  with_reducible refine (C1.out).mono ?_
  rintro e w1 ⟨rfl, hb⟩
  have HB1 := Lib.hid hb
  have s1 := hb.size
  have C5 := Lib.hid (C2.out w1 hb)
  clear hb C1 C2
  go_wp2_with fail
  with_reducible refine (C5.out).mono ?_
  rintro e w2 ⟨rfl, ⟨ss, hB, hS⟩, hb2⟩
  have s2 := hb2.size
  have HS := Lib.hid hS
  have hw12 := hB.lt
  have HBK := Lib.hid (hB.alloc (.cells #[] 25))
  have HB2 := Lib.hid ((HB1.out.trans (hb2.mono s1)).alloc (Nat.le_trans s1 s2) (.cells #[] 25))
  have HO2 := Lib.hid (OS.new w2 w.heap.size (Nat.le_trans s1 s2))
  have s12 : w.heap.size ≤ w1.heap.size := s1
  clear hS hB hb2 C5 HB1
  generalize w1.heap.size = bs at *
  go_wp2
  go_loopw [4, 16] (fun vo i wr => ∃ (k : Nat) (A' : Option Addr) (c' : Nat) (vs : List Value), k ≤ g.length ∧ vo = .slice A' vs.length c' ∧ i = .int .i64 k ∧ OS wr w.heap.size A' c' vs ∧ SLc wr w.heap.size wr.heap.size vs (Bs.pairK g k) ∧ Blk wr bs 45 (setsA ss) ∧ Below w.heap.size w wr) (fun _ i _ => g.length - (intOf i).toNat)
  case atStart => exact ⟨0, _, _, [], Nat.zero_le _, rfl, rfl, HO2.out, SLc.nil _ HB2.out.size, HBK.out, HB2.out⟩
  case round =>
    clear HO2 HB2 HBK
    obtain ⟨k, A', c', vs, hk, rfl, rfl, hO, hSL, hK, hb⟩ := hrel
    have sr := hb.size
    by_cases hlt : k < g.length
    · have C6 := Lib.hid (C3.out bs ss k wr hb HS.out hK hlt)
      have C7 := Lib.hid (C4.out k wr)
      have HLk := HL8.out k
      have HPSk := Lib.hid (HPS.out k)
      have HPLk := HPL.out k
      have HO := Lib.hid hO
      have HSL := Lib.hid hSL
      have HK := Lib.hid hK
      have HB := Lib.hid hb
      have hbk := hK.lt
      have i0 : (0 : Int) ≤ (k : Int) := by omega
      clear hO hSL hK hb C3 C4 HPS HPL HL8
      generalize Bs.uslL g k = P at *
      go_wp2_with fail
      with_reducible refine (C6.out).mono ?_
      rintro e w3 ⟨rfl, rfl⟩
      go_wp2_with fail
      with_reducible refine (C7.out).mono ?_
      rintro e w4 ⟨⟨A4, c4, rfl, ho4⟩, hb4⟩
      have s4 := hb4.size
      have HR4 := Lib.hid (ho4.base sr)
      have HO4 := Lib.hid (HO.out.below hb4 (Nat.le_refl _))
      have HSL4 := Lib.hid ((HSL.out.below hb4 (Nat.le_refl _)).more s4)
      have HK4 := Lib.hid (HK.out.below hb4 hbk)
      have HB4 := Lib.hid (HB.out.trans (hb4.mono sr))
      clear ho4 hb4 C6 C7 HO HSL HK HB
      go_wp2
      go_loopw [4, 25] (fun vo j wq => ∃ (p : Nat) (A' : Option Addr) (c' : Nat) (vs : List Value), p ≤ P.length ∧ vo = .slice A' vs.length c' ∧ j = .int .i64 p ∧ OS wq w.heap.size A' c' vs ∧ SLc wq w.heap.size wq.heap.size vs (Bs.pairK g k ++ ((P.take p).map fun x => [(k : Int), x])) ∧ Blk wq bs 45 (setsA ss) ∧ OI wq w.heap.size A4 c4 P ∧ Below w.heap.size w wq) (fun _ j _ => P.length - (intOf j).toNat)
      case atStart => exact ⟨0, _, _, vs, Nat.zero_le _, rfl, rfl, HO4.out, by rw [List.take_zero, List.map_nil, List.append_nil]; exact HSL4.out, HK4.out, HR4.out, HB4.out⟩
      case round =>
        clear HO4 HSL4 HK4 HR4 HB4
        obtain ⟨p, A5, c5, us, hp, rfl, rfl, hO, hSL, hK, hR, hb⟩ := hrel
        have sq := hb.size
        have hul := hSL.len
        rw [List.length_append, List.length_map, List.length_take] at hul
        by_cases hpl : p < P.length
        · obtain ⟨b6, o6, rfl, _, _, hc6⟩ := RI.at_ hR.ri (k := p) hpl
          have hus : us.length ≤ 100 := by omega
          clear hul
          have HTK := Lib.hid (show (P.take (p + 1)).map (fun x => [(k : Int), x]) = (P.take p).map (fun x => [(k : Int), x]) ++ [[(k : Int), P[p]]] from by rw [List.take_succ_eq_append_getElem hpl, List.map_append]; rfl)
          have j0 : (0 : Int) ≤ (p : Int) := by omega
          have j1 : (p : Int) < (P.length : Int) := by omega
          generalize P[p] = x at *
          have hb7 : Below wr.heap.size wr (wr.alloc (.cells #[.int .i64 (k : Int), .int .i64 x] 3)) := (Below.refl _ _).alloc (Nat.le_refl _) _
          have HT := Lib.hid (OI.two wr wr.heap.size (Nat.le_refl _) (k : Int) x)
          have HSL7 := Lib.hid ((hSL.alloc (.cells #[.int .i64 (k : Int), .int .i64 x] 3)).snoc HT.out (h2 := wr.heap.size + 1) (by omega) (by intro a e; injection e with e; subst e; show wr.heap.size < _; omega))
          have HSL8 := Lib.hid (HSL7.out.alloc (.cells #[.slice (some ⟨wr.heap.size, 0, none⟩) 2 2] 25))
          have HO8 := Lib.hid ((hO.alloc (.cells #[.int .i64 (k : Int), .int .i64 x] 3)).alloc (.cells #[.slice (some ⟨wr.heap.size, 0, none⟩) 2 2] 25))
          have HK8 := Lib.hid ((hK.alloc (.cells #[.int .i64 (k : Int), .int .i64 x] 3)).alloc (.cells #[.slice (some ⟨wr.heap.size, 0, none⟩) 2 2] 25))
          have HR8 := Lib.hid ((hR.alloc (.cells #[.int .i64 (k : Int), .int .i64 x] 3)).alloc (.cells #[.slice (some ⟨wr.heap.size, 0, none⟩) 2 2] 25))
          have HB8 := Lib.hid ((hb.alloc sq (.cells #[.int .i64 (k : Int), .int .i64 x] 3)).alloc (by simp; omega) (.cells #[.slice (some ⟨wr.heap.size, 0, none⟩) 2 2] 25))
          have HU8 := Lib.hid (OS.one (wr.alloc (.cells #[.int .i64 (k : Int), .int .i64 x] 3)) w.heap.size (by simp; omega) (.slice (some ⟨wr.heap.size, 0, none⟩) 2 2))
          simp only [World.size_alloc] at HU8
          have HONE := Lib.hid (show ∀ u ∈ [Value.slice (some ⟨wr.heap.size, 0, none⟩) 2 2], u.oneCell' = true from fun u hu => by rw [List.mem_singleton] at hu; subst hu; rfl)
          have HW8 := Lib.hid (show ((wr.alloc (.cells #[.int .i64 (k : Int), .int .i64 x] 3)).alloc (.cells #[.slice (some ⟨wr.heap.size, 0, none⟩) 2 2] 25)).heap.size = wr.heap.size + 2 from by simp)
          clear hO hSL hK hR hb HT HSL7 hb7
          go_wp2_with (first
            | (at_builtin; refine push_vs rfl _ _ rfl w.heap.size A5 c5 us [.slice (some ⟨wr.heap.size, 0, none⟩) 2 2] rfl HO8.out (some ⟨wr.heap.size + 1, 0, none⟩) 1 w.heap.size rfl HU8.out HONE.out (by simp; omega) (by rw [HW8.out]; omega) ?_; intro A9 c9 w9 ho9 hb9 hg9 s9; have HO9 := Lib.hid ho9; have HSL9 := Lib.hid ((HSL8.out.kept HO8.out hg9).more (show wr.heap.size + 1 ≤ w9.heap.size from by rw [HW8.out] at s9; omega)); have HK9 := Lib.hid (HK8.out.kept_os HO8.out hg9); have HR9 := Lib.hid (HR8.out.kept hg9 (OI.ne_os HR8.out HO8.out)); have HB9 := Lib.hid (HB8.out.trans hb9); clear ho9 hb9 hg9))
          go_roundw
          case rel => exact ⟨p + 1, A9, c9, us ++ [.slice (some ⟨wr.heap.size, 0, none⟩) 2 2], by omega, by rw [List.length_append]; rfl, by go_num, HO9.out, by rw [HTK.out, ← List.append_assoc]; exact HSL9.out, HK9.out, HR9.out, HB9.out⟩
          case measure => simp [intOf]; omega
        · obtain rfl : p = P.length := by omega
          rw [List.take_length, ← HPSk.out] at hSL
          have HO := Lib.hid hO
          have HSL := Lib.hid hSL
          have HK := Lib.hid hK
          have HB := Lib.hid hb
          clear hO hSL hK hb hR hul
          go_wp2
          go_roundw
          case rel => exact ⟨k + 1, A5, c5, us, by omega, rfl, by go_num, HO.out, HSL.out, HK.out, HB.out⟩
          case measure => simp [intOf]; omega
    · obtain rfl : k = g.length := by omega
      have HO := Lib.hid hO
      have HSL := Lib.hid hSL
      have HB := Lib.hid hb
      clear hO hSL hK hb
      go_wp2
      go_ret
      rw [HE.out]
      exact ⟨⟨A', c', vs, rfl, HO.out, HSL.out⟩, HB.out⟩
end Go.Proofs.Ytoaakidapgbhhaa
