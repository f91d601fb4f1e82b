/-
  WALKS: the laws' helpers: is a number in a list, are two lists equal.
-/
import Derived.Test.YtihgakbopkaemaaK1
import Derived.Test.YtihgakbopkaemaaK21
namespace Go.Proofs.Ytihgakbopkaemaa
open Go.RowKit
theorem lisIn_any (A : Option Addr) (c : Nat) (l : List Int) (n : Int) (lo hi : Nat) (w : World) (h : RI w lo hi A l) (hl : l.length ≤ 9223372036854775807) :
    Calls Try.prog 19 #[.slice A l.length c, .int .i64 n] w fun e w' => e = .returned (.bool (l.contains n)) ∧ w = w' := by
  go_enter Try.func19, Try.ntmps19
  go_wp2
  go_loop [5] (fun i => ∃ k : Nat, k ≤ l.length ∧ i = .int .i64 k ∧ n ∉ l.take k) (fun i => l.length - (intOf i).toNat)
  case atStart => exact ⟨0, Nat.zero_le _, rfl, by simp⟩
  case round =>
    obtain ⟨k, hk, rfl, hn⟩ := hrel
    by_cases hlt : k < l.length
    · obtain ⟨b, o, rfl, _, _, hc⟩ := h.at_ hlt
      have hs : l.take (k + 1) = l.take k ++ [l[k]] := List.take_succ_eq_append_getElem hlt
      have HS := Lib.hid hs
      clear hs
      have Hn := Lib.hid hn
      clear hn
      by_cases he : l[k] = n
      · have hb : (l[k] == n) = true := by simp [he]
        have HE := Lib.hid he
        clear he
        go_wp2
        go_ret
        exact ⟨ret_bool (by rw [← HE.out]; simp), rfl⟩
      · have hb : (l[k] == n) = false := by simp [he]
        have HE := Lib.hid he
        clear he
        go_wp2
        go_round
        case rel => exact ⟨k + 1, by omega, by go_num, by rw [HS.out]; simp only [List.mem_append, List.mem_singleton, not_or]; exact ⟨Hn.out, fun h => HE.out h.symm⟩⟩
        case measure => simp [intOf]; omega
    · have e : l.take k = l := List.take_of_length_le (by omega)
      rw [e] at hn
      have Hn := Lib.hid hn
      clear hn e
      go_wp2
      go_ret
      exact ⟨ret_bool (by simp [Hn.out]), rfl⟩
theorem equalInts_any (A : Option Addr) (c : Nat) (l : List Int) (A' : Option Addr) (c' : Nat) (l' : List Int) (lo hi lo' hi' : Nat) (w : World) (h : RI w lo hi A l) (h' : RI w lo' hi' A' l') (hl : l.length ≤ 9223372036854775807) :
    Calls Try.prog 17 #[.slice A l.length c, .slice A' l'.length c'] w fun e w' => e = .returned (.bool (decide (l = l'))) ∧ ∃ n, w' = w.drewN n := by
  by_cases hne : l.length = l'.length
  · have hb0 : ((l.length : Int) != (l'.length : Int)) = false := by simp [hne]
    have HE := Lib.hid hne
    clear hne
    go_enter Try.func17, Try.ntmps17
    go_wp2
    go_loopw [5] (fun i wr => ∃ k : Nat, k ≤ l.length ∧ i = .int .i64 k ∧ (∀ j (hj : j < l.length) (hj' : j < l'.length), j < k → l[j] = l'[j]) ∧ ∃ n, wr = w.drewN n) (fun i _ => l.length - (intOf i).toNat)
    case atStart => exact ⟨0, Nat.zero_le _, rfl, by intro j _ _ h; omega, 0, rfl⟩
    case round =>
      obtain ⟨k, hk, rfl, hn, n, rfl⟩ := hrel
      have Hn := Lib.hid hn
      clear hn
      by_cases hlt : k < l.length
      · obtain ⟨b, o, rfl, _, _, hc⟩ := h.at_ hlt
        have hlt' : k < l'.length := by have := HE.out; omega
        obtain ⟨b', o', rfl, _, _, hc'⟩ := h'.at_ hlt'
        by_cases he : l[k] = l'[k]
        · have hd : (l[k] != l'[k]) = false := by simpa using he
          have HX := Lib.hid he
          clear he
          go_wp2
          go_quiet (fail)
          go_wp2
          go_roundw
          case rel =>
            refine ⟨k + 1, by omega, by go_num, ?_, _, by first | rfl | rw [World.drewN_drewN]⟩
            intro j hj hj' hjk
            by_cases e : j < k
            · exact Hn.out j hj hj' e
            · have : j = k := by omega
              subst this
              exact HX.out
          case measure => simp [intOf]; omega
        · have hd : (l[k] != l'[k]) = true := by simpa using he
          have HX := Lib.hid he
          clear he
          go_wp2
          go_quiet (fail)
          go_wp2
          go_ret
          refine ⟨ret_bool ?_, _, by first | rfl | rw [World.drewN_drewN]⟩
          symm
          rw [decide_eq_false_iff_not]
          rintro rfl
          exact HX.out rfl
      · go_wp2
        go_ret
        refine ⟨ret_bool ?_, _, rfl⟩
        symm
        rw [decide_eq_true_eq]
        exact List.ext_getElem HE.out fun j h1 h2 => Hn.out j h1 h2 (by omega)
  · have hb0 : ((l.length : Int) != (l'.length : Int)) = true := by simp; omega
    have HE := Lib.hid hne
    clear hne
    go_enter Try.func17, Try.ntmps17
    go_wp2
    go_ret
    refine ⟨ret_bool ?_, 0, rfl⟩
    symm
    rw [decide_eq_false_iff_not]
    rintro rfl
    exact HE.out rfl

theorem equalInts_same (A : Option Addr) (c : Nat) (A' : Option Addr) (c' : Nat) (l : List Int) (lo hi lo' hi' : Nat) (w : World) (h : RI w lo hi A l) (h' : RI w lo' hi' A' l) (hl : l.length ≤ 9223372036854775807) :
    Calls Try.prog 17 #[.slice A l.length c, .slice A' l.length c'] w fun e w' => e = .returned (.bool true) ∧ ∃ n, w' = w.drewN n :=
  (equalInts_any A c l A' c' l lo hi lo' hi' w h h' hl).mono fun _ _ ⟨h1, h2⟩ => ⟨by rw [h1]; simp, h2⟩
theorem lisIn_quiet (A : Option Addr) (c : Nat) (l : List Int) (q : Int) (lo hi : Nat) (w : World) (h : RI w lo hi A l) (hl : l.length ≤ 9223372036854775807) (n : Nat) :
    Calls Try.prog 19 #[.slice A l.length c, .int .i64 q] (w.drewN n) fun e w'' => e = .returned (.bool (l.contains q)) ∧ ∃ m, w'' = w.drewN m :=
  (lisIn_any A c l q lo hi (w.drewN n) h hl).mono fun _ _ ⟨h1, h2⟩ => ⟨h1, n, h2.symm⟩
theorem lisIn_quiet2 (A : Option Addr) (c : Nat) (l : List Int) (q : Int) (lo hi : Nat) (w : World) (h : RI w lo hi A l) (hl : l.length ≤ 9223372036854775807) (m n : Nat) :
    Calls Try.prog 19 #[.slice A l.length c, .int .i64 q] (w.drewN (m + n)) fun e w'' => e = .returned (.bool (l.contains q)) ∧ ∃ k, w'' = w.drewN (m + k) :=
  (lisIn_any A c l q lo hi (w.drewN (m + n)) h hl).mono fun _ _ ⟨h1, h2⟩ => ⟨h1, n, h2.symm⟩
theorem RI.drewN {w : World} {lo hi : Nat} {A : Option Addr} {l : List Int} (h : RI w lo hi A l) (n : Nat) : RI (w.drewN n) lo hi A l := h
theorem RG.drewN {w : World} {lo hi : Nat} {A : Option Addr} {g : List Bs.T} (h : RG w lo hi A g) (n : Nat) : RG (w.drewN n) lo hi A g := h
/-- the first n of a list -/
theorem RI.take {w : World} {lo hi : Nat} {A : Option Addr} {l : List Int} (h : RI w lo hi A l) (n : Nat) : RI w lo hi A (l.take n) := by
  intro k hk
  have hk' : k < l.length := by simp at hk; omega
  obtain ⟨b, o, e, h1, h2, h3⟩ := h k hk'
  exact ⟨b, o, e, h1, h2, by rw [h3]; simp⟩
theorem RetI.ri {w w' : World} {L : List Int} {e : Ending} (h : RetI w L e w') : ∃ A c, e = .returned (.slice A L.length c) ∧ RI w' w.heap.size w'.heap.size A L ∧ Below w.heap.size w w' ∧ L.length ≤ c ∧ c ≤ maxLen := by
  obtain ⟨⟨A, c, he, ho⟩, hb⟩ := h
  exact ⟨A, c, he, ho.ri, hb, ho.cap.1, ho.cap.2⟩
end Go.Proofs.Ytihgakbopkaemaa
