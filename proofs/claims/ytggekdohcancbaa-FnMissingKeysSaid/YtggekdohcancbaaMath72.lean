/-
  WHAT THE LAWS OF STALE TASKS AND KEYS WANT: facts on the answers, ready for the walks. No condition.
-/
import Derived.Test.YtggekdohcancbaaW91
namespace Go.Proofs.Ytggekdohcancbaa
open Go.RowKit
theorem StaleTasks_len100 (g : List Bs.T) (F : List Int) (_hg : g.length ≤ 100) (_hd : F.length ≤ 100) : (Bs.staleL g F).length ≤ 1000 := staleL_len1000 g F
theorem TaskKeys_len100 (g : List Bs.T) (F : List Int) (_hg : g.length ≤ 100) (_hd : F.length ≤ 100) : (Bs.keysL g F).length ≤ 1000 := keysL_len1000 g F
theorem sta_can {g : List Bs.T} {F L : List Int} (hL : L = Bs.staleL g F) (h0 : ¬ L.length = 0) : Bs.staOk g F = true := by
  cases h : Bs.staOk g F
  · rw [Bs.staleL_no h] at hL; rw [hL] at h0; exact absurd rfl h0
  · rfl
theorem sta_is {g : List Bs.T} {F L : List Int} (hL : L = Bs.staleL g F) (h : Bs.staOk g F = true) : L = Bs.staleC g F := by rw [hL, Bs.staleL_yes h]
theorem key_can {g : List Bs.T} {F L : List Int} (hL : L = Bs.keysL g F) (h0 : ¬ L.length = 0) : Bs.inpOk g F = true := by
  cases h : Bs.inpOk g F
  · rw [Bs.keysL_no h] at hL; rw [hL] at h0; exact absurd rfl h0
  · rfl
theorem key_is {g : List Bs.T} {F L : List Int} (hL : L = Bs.keysL g F) (h : Bs.inpOk g F = true) : L = Bs.keysC g F := by rw [hL, Bs.keysL_yes h]
theorem users_test {g : List Bs.T} (hv : Bs.valid g = true) {x : Int} (hx : 0 ≤ x ∧ x < g.length) {i : Nat} (hi : i < g.length) : (Bs.usersA g x).contains (i : Int) = Bs.reachB g i x.toNat := by
  have e : x = ((x.toNat : Nat) : Int) := by omega
  rw [e, usersA_yes hv (by omega), Bool.eq_iff_iff, Bs.contains_iff', Bs.mem_pick_nat, Int.toNat_natCast]
  exact ⟨fun h => h.2, fun h => ⟨hi, h⟩⟩
theorem users_len {g : List Bs.T} (hv : Bs.valid g = true) {x : Int} (hx : 0 ≤ x ∧ x < g.length) : (Bs.usersA g x).length ≤ 8 := by
  have e : x = ((x.toNat : Nat) : Int) := by omega
  rw [e, usersA_yes hv (by omega)]
  have := Bs.pick_len g.length (fun j => Bs.reachB g j x.toNat)
  have := Bs.fine_len (valid_fine hv)
  omega
theorem any_tk2 {F : List Int} {p : Int → Bool} {k : Nat} (hk : k < F.length) : (F.take (k + 1)).any p = ((F.take k).any p || p F[k]) := by
  rw [List.take_succ_eq_append_getElem hk, List.any_append]
  simp
theorem ri_uno {B : Nat} (W : World) (x : Int) (hB : B ≤ W.heap.size) : RI (W.alloc (.cells #[.int .i64 x] 3)) B (W.alloc (.cells #[.int .i64 x] 3)).heap.size (some ⟨W.heap.size, 0, none⟩) [x] := by
  intro k hk
  obtain rfl : k = 0 := by simpa using hk
  exact ⟨W.heap.size, 0, rfl, hB, by simp, (Blk.new W 3 #[.int .i64 x]).cell 0⟩
theorem stal_small {g : List Bs.T} {F : List Int} (h : Bs.staOk g F = true) : Bs.stalT g F ≤ 1000 := by
  obtain ⟨hv, _⟩ := Bs.staOk_iff.1 h
  have hf := valid_fine hv
  have h8 := Bs.fine_len hf
  have h1 := (Bs.stal_all h).2
  have h2 := Bs.rs_le (f := Bs.timeOf g) (h := fun _ => 20) g.length (fun i hi => (Bs.fine_time hf hi).2)
  rw [Bs.rs_time, Bs.rs_const] at h2
  omega
/-- another input of one task -/
def othI (inp : List Int) (k : Nat) : List Int := inp.set k ((Bs.gi inp k + 1) % 1001)
theorem oth_gi {inp : List Int} {k : Nat} (hk : k < inp.length) (i : Nat) : Bs.gi (othI inp k) i = if i = k then (Bs.gi inp k + 1) % 1001 else Bs.gi inp i := Bs.gi_set _ _ _ _ hk
theorem inp_b {g : List Bs.T} {inp : List Int} (h : Bs.inpOk g inp = true) {k : Nat} (hk : k < inp.length) : 0 ≤ Bs.gi inp k ∧ Bs.gi inp k ≤ 1000 := by
  rw [Bs.gi_at hk]
  exact Bs.allInB_get (Bs.inpOk_iff.1 h).2.2 hk
theorem oth_ok {g : List Bs.T} {inp : List Int} (h : Bs.inpOk g inp = true) {k : Nat} (hk : k < g.length) : Bs.inpOk g (othI inp k) = true := by
  obtain ⟨hv, hl, _⟩ := Bs.inpOk_iff.1 h
  have hlo : (othI inp k).length = inp.length := List.length_set
  refine Bs.inpOk_iff.2 ⟨hv, by rw [hlo, hl], allInB_good ?_⟩
  intro j hj
  rw [← Bs.gi_at hj, oth_gi (by omega)]
  have := inp_b h (k := j) (by omega)
  split <;> omega
theorem oth_same {g : List Bs.T} {inp : List Int} (h : Bs.inpOk g inp = true) {k : Nat} (hk : k < g.length) : ∀ i, i < g.length → Bs.stB g [(k : Int)] i = false → Bs.gi (Bs.keysC g inp) i = Bs.gi (Bs.keysC g (othI inp k)) i := by
  obtain ⟨hv, hl, _⟩ := Bs.inpOk_iff.1 h
  exact Bs.keys_same hv (fun i hi => by rw [oth_gi (by omega), if_neg hi])
theorem oth_other {g : List Bs.T} {inp : List Int} (h : Bs.inpOk g inp = true) {k : Nat} (hk : k < g.length) : Bs.gi (Bs.keysC g inp) k ≠ Bs.gi (Bs.keysC g (othI inp k)) k := by
  obtain ⟨hv, hl, _⟩ := Bs.inpOk_iff.1 h
  have hb := inp_b h (k := k) (by omega)
  have hb2 := inp_b (oth_ok h hk) (k := k) (by unfold othI; rw [List.length_set]; omega)
  refine Bs.keys_other hv (fun i hi => by rw [oth_gi (by omega), if_neg hi]) hk hb hb2 ?_
  rw [oth_gi (by omega), if_pos rfl]
  omega
theorem sta_one {g : List Bs.T} (hv : Bs.valid g = true) {k : Nat} (hk : k < g.length) : Bs.staOk g [(k : Int)] = true := by
  refine Bs.staOk_iff.2 ⟨hv, Bs.inG_yes (by unfold Bs.asc; rfl) ?_⟩
  refine Bs.allInB_of ?_
  intro x hx
  simp at hx
  omega
theorem mis_stale {g : List Bs.T} {inp : List Int} (h : Bs.inpOk g inp = true) {k : Nat} (hk : k < g.length) : ∀ x ∈ Bs.missingL g (othI inp k) (Bs.keysC g inp), (Bs.staleC g [(k : Int)]).contains x = true := by
  have hl := Bs.keysC_len g inp
  have h8 := Bs.fine_len (valid_fine (Bs.inpOk_iff.1 h).1)
  rw [Bs.missingL_yes (Bs.misOk_iff.2 ⟨oth_ok h hk, by omega⟩)]
  intro x hx
  obtain ⟨i, hi, hm, rfl⟩ := (Bs.mem_pick _ _ _).1 hx
  rw [Bs.stale_has hi]
  cases hs : Bs.stB g [(k : Int)] i
  · exfalso
    have e := oth_same h hk i hi hs
    unfold Bs.misP at hm
    rw [← e, Bs.gi_at (by omega)] at hm
    simp at hm
  · rfl
/-- a row of tasks without times and pools -/
theorem mis_none {g : List Bs.T} {inp : List Int} (h : Bs.inpOk g inp = true) : (Bs.missingL g inp []).length = g.length := by
  rw [Bs.missingL_yes (Bs.misOk_iff.2 ⟨h, by simp⟩)]
  unfold Bs.missingC
  rw [Bs.pick_congr g.length _ (fun _ => true) (fun i _ => by unfold Bs.misP; simp)]
  generalize g.length = n
  induction n with
  | zero => rfl
  | succ n ih => rw [Bs.pick_succ, if_pos rfl, List.length_append, ih]; rfl
theorem mis_all {g : List Bs.T} {inp : List Int} (h : Bs.inpOk g inp = true) : Bs.missingL g inp (Bs.keysC g inp) = [] := by
  have hl := Bs.keysC_len g inp
  have h8 := Bs.fine_len (valid_fine (Bs.inpOk_iff.1 h).1)
  rw [Bs.missingL_yes (Bs.misOk_iff.2 ⟨h, by omega⟩)]
  unfold Bs.missingC
  rw [Bs.pick_congr g.length _ (fun _ => false) (fun i hi => by
    unfold Bs.misP
    rw [Bs.gi_at (by omega)]
    simp)]
  generalize g.length = n
  induction n with
  | zero => rfl
  | succ n ih => rw [Bs.pick_succ, ih]; rfl
theorem mis_has {g : List Bs.T} {inp st : List Int} (h : Bs.misOk g inp st = true) {i : Nat} (hi : i < g.length) : (Bs.missingL g inp st).contains (i : Int) = !st.contains (Bs.gi (Bs.keysC g inp) i) := by
  rw [Bs.missingL_yes h, Bool.eq_iff_iff, Bs.contains_iff']
  unfold Bs.missingC
  rw [Bs.mem_pick_nat]
  exact ⟨fun h => h.2, fun h => ⟨hi, h⟩⟩
end Go.Proofs.Ytggekdohcancbaa
