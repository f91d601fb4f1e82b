/-
  MERGED TEXTS: Math93 Math94 Math96.
-/
import Derived.Test.YtihgakbopkaemaaK2
import Derived.Test.YtihgakbopkaemaaK37
import Derived.Test.YtihgakbopkaemaaMath39
import Derived.Test.YtihgakbopkaemaaK16
namespace Go.Proofs.Ytihgakbopkaemaa.Bs
structure E where
  at_ : Int
  task : Int
  over : Bool
def e0 : E := ⟨0, 0, false⟩
def ge (l : List E) (i : Nat) : E := l.getD i e0
theorem ge_at {l : List E} {k : Nat} (hk : k < l.length) : ge l k = l[k] := by unfold ge; rw [List.getD_eq_getElem?_getD, List.getElem?_eq_getElem hk]; rfl
/-- tasks that have begun, by the first k events -/
def bgL (l : List E) : Nat → List Int
  | 0 => []
  | k + 1 => if (ge l k).over then bgL l k else bgL l k ++ [(ge l k).task]
/-- tasks that are over -/
def ovL (l : List E) : Nat → List Int
  | 0 => []
  | k + 1 => if (ge l k).over then ovL l k ++ [(ge l k).task] else ovL l k
/-- when they began -/
def bgF (l : List E) : Nat → Nat → Int
  | 0 => fun _ => 0
  | k + 1 => if (ge l k).over then bgF l k else upd (bgF l k) (ge l k).task.toNat (ge l k).at_
/-- when a task began, as the model tells it -/
def bgM (l : List E) (t : Int) : Nat → Int
  | 0 => -1
  | k + 1 => if !(ge l k).over && ((ge l k).task == t) then (ge l k).at_ else bgM l t k
def nwK (l : List E) : Nat → Int
  | 0 => 0
  | k + 1 => (ge l k).at_
def fitE (g : List T) (l : List E) (i : Nat) (x : E) : Bool :=
  if x.over then decide (0 ≤ bgM l x.task i) && !(ovL l i).contains x.task && (x.at_ == bgM l x.task i + timeOf g x.task.toNat)
  else decide (bgM l x.task i < 0) && (need g x.task.toNat).all fun y => (ovL l i).contains y
def evOk (g : List T) (l : List E) (i : Nat) : Bool :=
  decide (0 ≤ (ge l i).at_ ∧ (ge l i).at_ ≤ 200) && (decide (i = 0) || decide (nwK l i ≤ (ge l i).at_)) && decide (0 ≤ (ge l i).task ∧ (ge l i).task ≤ (g.length : Int) - 1) && fitE g l i (ge l i)
def evK (g : List T) (l : List E) (k : Nat) : Bool := (List.range k).all (evOk g l)
def logV (g : List T) (l : List E) : Bool := valid g && decide (l.length ≤ 16) && evK g l l.length
theorem evK_succ (g : List T) (l : List E) (k : Nat) : evK g l (k + 1) = (evK g l k && evOk g l k) := by
  unfold evK
  rw [List.range_succ, List.all_append]
  simp
theorem evK_no {g : List T} {l : List E} {k n : Nat} (hk : k < n) (h : evOk g l k = false) : evK g l n = false := by
  unfold evK
  rw [List.all_eq_false]
  exact ⟨k, by simp [hk], by simp [h]⟩
theorem evK_le {g : List T} {l : List E} {k n : Nat} (hk : k ≤ n) (h : evK g l n = true) : evK g l k = true := by
  unfold evK at *
  rw [List.all_eq_true] at *
  intro x hx
  exact h x (by simp at *; omega)
theorem evK_at {g : List T} {l : List E} {k n : Nat} (hk : k < n) (h : evK g l n = true) : evOk g l k = true := by
  unfold evK at h
  rw [List.all_eq_true] at h
  exact h k (by simp [hk])
theorem logV_iff {g : List T} {l : List E} : logV g l = true ↔ valid g = true ∧ l.length ≤ 16 ∧ evK g l l.length = true := by
  unfold logV
  simp only [Bool.and_eq_true, decide_eq_true_eq, and_assoc]
theorem logV_no1 {g : List T} {l : List E} (h : valid g = false) : logV g l = false := by unfold logV; rw [h]; rfl
theorem logV_no2 {g : List T} {l : List E} (h : ¬ l.length ≤ 16) : logV g l = false := by unfold logV; simp [h]
theorem logV_no3 {g : List T} {l : List E} (h : evK g l l.length = false) : logV g l = false := by unfold logV; rw [h]; simp
theorem evOk_iff {g : List T} {l : List E} {i : Nat} : evOk g l i = true ↔ 0 ≤ (ge l i).at_ ∧ (ge l i).at_ ≤ 200 ∧ (i = 0 ∨ nwK l i ≤ (ge l i).at_) ∧ 0 ≤ (ge l i).task ∧ (ge l i).task < g.length ∧ fitE g l i (ge l i) = true := by
  unfold evOk
  simp only [Bool.and_eq_true, Bool.or_eq_true, decide_eq_true_eq]
  constructor
  · rintro ⟨⟨⟨⟨a, b⟩, c⟩, d, e⟩, f⟩; exact ⟨a, b, c, d, by omega, f⟩
  · rintro ⟨a, b, c, d, e, f⟩; exact ⟨⟨⟨⟨a, b⟩, c⟩, d, by omega⟩, f⟩
theorem fitE_over {g : List T} {l : List E} {i : Nat} {x : E} (hx : x.over = true) : fitE g l i x = true ↔ 0 ≤ bgM l x.task i ∧ x.task ∉ ovL l i ∧ x.at_ = bgM l x.task i + timeOf g x.task.toNat := by
  unfold fitE
  rw [if_pos hx]
  simp [and_assoc]
theorem fitE_begin {g : List T} {l : List E} {i : Nat} {x : E} (hx : x.over = false) : fitE g l i x = true ↔ bgM l x.task i < 0 ∧ ∀ y ∈ need g x.task.toNat, y ∈ ovL l i := by
  unfold fitE
  rw [if_neg (by rw [hx]; simp)]
  simp
/-- what k events leave -/
structure LI (g : List T) (l : List E) (k : Nat) : Prop where
  bin : ∀ x ∈ bgL l k, 0 ≤ x ∧ x < g.length
  bnd : (bgL l k).Nodup
  ond : (ovL l k).Nodup
  sub : ∀ x ∈ ovL l k, x ∈ bgL l k
  beg : ∀ t, 0 ≤ bgM l t k ↔ t ∈ bgL l k
  val : ∀ t ∈ bgL l k, bgM l t k = bgF l k t.toNat
  fb : ∀ i, 0 ≤ bgF l k i ∧ bgF l k i ≤ 200
  nw : 0 ≤ nwK l k ∧ nwK l k ≤ 200
  bnow : ∀ x ∈ bgL l k, bgF l k x.toNat ≤ nwK l k
  onow : ∀ x ∈ ovL l k, bgF l k x.toNat + timeOf g x.toNat ≤ nwK l k
  need_ : ∀ x ∈ bgL l k, ∀ y ∈ need g x.toNat, y ∈ ovL l k
theorem LI.zero (g : List T) (l : List E) : LI g l 0 := by
  refine ⟨?_, List.nodup_nil, List.nodup_nil, ?_, ?_, ?_, fun _ => by simp [bgF], by simp [nwK], ?_, ?_, ?_⟩
  all_goals simp [bgL, ovL, bgM]
theorem nodup_snoc {l : List Int} {x : Int} (h : l.Nodup) (hx : x ∉ l) : (l ++ [x]).Nodup := by
  rw [List.nodup_append]
  refine ⟨h, by simp, ?_⟩
  intro a ha b hb
  simp only [List.mem_singleton] at hb
  subst hb
  rintro rfl
  exact hx ha
theorem LI.step {g : List T} {l : List E} {k : Nat} (h : LI g l k) (hF : fine g = true) (hk : evOk g l k = true) : LI g l (k + 1) := by
  obtain ⟨a1, a2, a3, t1, t2, hf⟩ := evOk_iff.1 hk
  have hnw : nwK l k ≤ (ge l k).at_ := by
    rcases a3 with e | e
    · subst e; exact a1
    · exact e
  have hti := fine_time hF (i := (ge l k).task.toNat) (by omega)
  cases ho : (ge l k).over
  · obtain ⟨hb, hn⟩ := (fitE_begin ho).1 hf
    have hnot : (ge l k).task ∉ bgL l k := fun hm => by have := (h.beg _).2 hm; omega
    have e1 : bgL l (k + 1) = bgL l k ++ [(ge l k).task] := by show (if _ then _ else _) = _; rw [ho]; rfl
    have e2 : ovL l (k + 1) = ovL l k := by show (if _ then _ else _) = _; rw [ho]; rfl
    have e3 : bgF l (k + 1) = upd (bgF l k) (ge l k).task.toNat (ge l k).at_ := by show (if _ then _ else _) = _; rw [ho]; rfl
    have e4 : ∀ t, bgM l t (k + 1) = if (ge l k).task = t then (ge l k).at_ else bgM l t k := by
      intro t
      show (if _ then _ else _) = _
      rw [ho]
      by_cases e : (ge l k).task = t <;> simp [e]
    have hne : ∀ t ∈ bgL l k, t.toNat ≠ (ge l k).task.toNat := by
      intro t ht e
      have := h.bin t ht
      have : t = (ge l k).task := by omega
      rw [this] at ht
      exact hnot ht
    refine ⟨?_, ?_, ?_, ?_, ?_, ?_, ?_, ⟨a1, a2⟩, ?_, ?_, ?_⟩
    · rw [e1]
      intro x hx
      rcases List.mem_append.1 hx with hx | hx
      · exact h.bin x hx
      · simp only [List.mem_singleton] at hx; subst hx; exact ⟨t1, t2⟩
    · rw [e1]; exact nodup_snoc h.bnd hnot
    · rw [e2]; exact h.ond
    · rw [e1, e2]; intro x hx; exact List.mem_append_left _ (h.sub x hx)
    · intro t
      rw [e4, e1]
      by_cases e : (ge l k).task = t
      · rw [if_pos e]; simp [e, a1]
      · rw [if_neg e, h.beg]; simp [Ne.symm e]
    · rw [e1, e3]
      intro t ht
      rw [e4]
      unfold upd
      by_cases e : (ge l k).task = t
      · rw [if_pos e, if_pos (by rw [e])]
      · have ht' : t ∈ bgL l k := by
          rcases List.mem_append.1 ht with h1 | h1
          · exact h1
          · simp only [List.mem_singleton] at h1; exact absurd h1.symm e
        rw [if_neg e, if_neg (hne t ht')]
        exact h.val t ht'
    · rw [e3]
      intro i
      unfold upd
      split
      · exact ⟨a1, a2⟩
      · exact h.fb i
    · rw [e1, e3]
      intro x hx
      show _ ≤ (ge l k).at_
      unfold upd
      split
      · exact Int.le_refl _
      · next hne2 =>
        rcases List.mem_append.1 hx with h1 | h1
        · have := h.bnow x h1; omega
        · simp only [List.mem_singleton] at h1; exact absurd (by rw [h1]) hne2
    · rw [e2, e3]
      intro x hx
      show _ ≤ (ge l k).at_
      have := h.onow x hx
      unfold upd
      rw [if_neg (hne x (h.sub x hx))]
      omega
    · rw [e1, e2]
      intro x hx
      rcases List.mem_append.1 hx with h1 | h1
      · exact h.need_ x h1
      · simp only [List.mem_singleton] at h1; subst h1; exact hn
  · obtain ⟨hb, hn, hat⟩ := (fitE_over ho).1 hf
    have hin : (ge l k).task ∈ bgL l k := (h.beg _).1 hb
    have hval := h.val _ hin
    have e1 : bgL l (k + 1) = bgL l k := by show (if _ then _ else _) = _; rw [ho]; rfl
    have e2 : ovL l (k + 1) = ovL l k ++ [(ge l k).task] := by show (if _ then _ else _) = _; rw [ho]; rfl
    have e3 : bgF l (k + 1) = bgF l k := by show (if _ then _ else _) = _; rw [ho]; rfl
    have e4 : ∀ t, bgM l t (k + 1) = bgM l t k := by
      intro t
      show (if _ then _ else _) = _
      rw [ho]
      rfl
    refine ⟨?_, ?_, ?_, ?_, ?_, ?_, ?_, ⟨a1, a2⟩, ?_, ?_, ?_⟩
    · rw [e1]; exact h.bin
    · rw [e1]; exact h.bnd
    · rw [e2]; exact nodup_snoc h.ond hn
    · rw [e1, e2]
      intro x hx
      rcases List.mem_append.1 hx with h1 | h1
      · exact h.sub x h1
      · simp only [List.mem_singleton] at h1; subst h1; exact hin
    · intro t; rw [e4, e1]; exact h.beg t
    · intro t; rw [e4, e1, e3]; exact h.val t
    · rw [e3]; exact h.fb
    · rw [e1, e3]; intro x hx; show _ ≤ (ge l k).at_; have := h.bnow x hx; omega
    · rw [e2, e3]
      intro x hx
      show _ ≤ (ge l k).at_
      rcases List.mem_append.1 hx with h1 | h1
      · have := h.onow x h1; omega
      · simp only [List.mem_singleton] at h1; subst h1; rw [← hval]; omega
    · rw [e1, e2]; intro x hx y hy; exact List.mem_append_left _ (h.need_ x hx y hy)
theorem LI.of {g : List T} {l : List E} (hF : fine g = true) : ∀ k, evK g l k = true → LI g l k := by
  intro k
  induction k with
  | zero => intro _; exact LI.zero g l
  | succ k ih =>
    intro h
    rw [evK_succ, Bool.and_eq_true] at h
    exact (ih h.1).step hF h.2
theorem LI.oin {g : List T} {l : List E} {k : Nat} (h : LI g l k) : ∀ x ∈ ovL l k, 0 ≤ x ∧ x < g.length := fun x hx => h.bin x (h.sub x hx)
theorem LI.b8 {g : List T} {l : List E} {k : Nat} (h : LI g l k) (h8 : g.length ≤ 8) : ∀ x ∈ bgL l k, 0 ≤ x ∧ x < 8 := fun x hx => by have := h.bin x hx; omega
theorem LI.o8 {g : List T} {l : List E} {k : Nat} (h : LI g l k) (h8 : g.length ≤ 8) : ∀ x ∈ ovL l k, 0 ≤ x ∧ x < 8 := fun x hx => by have := h.oin x hx; omega
/-- whether an event can come next, as the program tells it -/
def accB (g : List T) (now : Int) (f : Nat → Int) (B O : List Int) (x : E) : Bool :=
  decide (now ≤ x.at_) && decide (x.at_ ≤ 200) && decide (0 ≤ x.task ∧ x.task < g.length) &&
  (if x.over then (B.contains x.task && !O.contains x.task) && (x.at_ == f x.task.toNat + timeOf g x.task.toNat)
   else !B.contains x.task && (need g x.task.toNat).all fun y => O.contains y)
theorem acc_eq {g : List T} {l : List E} {k : Nat} (h : LI g l k) : accB g (nwK l k) (bgF l k) (bgL l k) (ovL l k) (ge l k) = evOk g l k := by
  have hnw := h.nw
  rw [Bool.eq_iff_iff, evOk_iff]
  unfold accB
  simp only [Bool.and_eq_true, decide_eq_true_eq]
  have hn0 : k = 0 → nwK l k = 0 := by rintro rfl; rfl
  have hbeg : ∀ t, t ∉ bgL l k ↔ bgM l t k < 0 := fun t => by rw [← h.beg]; omega
  cases ho : (ge l k).over
  · rw [if_neg (by simp), fitE_begin ho, Bool.and_eq_true, List.all_eq_true]
    have e1 : (!(bgL l k).contains (ge l k).task) = true ↔ bgM l (ge l k).task k < 0 := by rw [← hbeg]; simp
    rw [e1]
    constructor
    · rintro ⟨⟨⟨a, b⟩, c, d⟩, e, f⟩
      exact ⟨by omega, b, .inr a, c, d, e, fun y hy => by simpa using f y hy⟩
    · rintro ⟨a, b, c, d, e, f, i⟩
      exact ⟨⟨⟨by rcases c with c | c; (· have := hn0 c; omega); exact c, b⟩, d, e⟩, f, fun y hy => by simpa using i y hy⟩
  · rw [if_pos rfl, fitE_over ho]
    simp only [Bool.and_eq_true, Bool.not_eq_true', beq_iff_eq]
    constructor
    · rintro ⟨⟨⟨a, b⟩, c, d⟩, ⟨e, f⟩, i⟩
      have e' : (ge l k).task ∈ bgL l k := by simpa using e
      have hv := h.val _ e'
      exact ⟨by omega, b, .inr a, c, d, (h.beg _).2 e', by simpa using f, by rw [hv]; exact i⟩
    · rintro ⟨a, b, c, d, e, f, i, j⟩
      have e' := (h.beg _).1 f
      have hv := h.val _ e'
      exact ⟨⟨⟨by rcases c with c | c; (· have := hn0 c; omega); exact c, b⟩, d, e⟩, ⟨by simpa using e', by simpa using i⟩, by rw [← hv]; exact j⟩
/-- over tasks up to a time -/
def ovN (l : List E) (now : Int) : Nat → List Int
  | 0 => []
  | k + 1 => if (ge l k).over && decide ((ge l k).at_ ≤ now) then ovN l now k ++ [(ge l k).task] else ovN l now k
theorem ovN_sub {l : List E} {now : Int} : ∀ k, ∀ x ∈ ovN l now k, x ∈ ovL l k := by
  intro k
  induction k with
  | zero => intro x hx; simp [ovN] at hx
  | succ k ih =>
    intro x hx
    unfold ovN at hx
    unfold ovL
    split at hx
    · next h =>
      rw [Bool.and_eq_true] at h
      rw [if_pos h.1]
      rcases List.mem_append.1 hx with h1 | h1
      · exact List.mem_append_left _ (ih x h1)
      · exact List.mem_append_right _ h1
    · split
      · exact List.mem_append_left _ (ih x hx)
      · exact ih x hx
def doneC (g : List T) (l : List E) (now : Int) : List Int := pick g.length fun t => (ovN l now l.length).contains (t : Int)
def doneL (g : List T) (l : List E) (now : Int) : List Int := if logV g l then doneC g l now else []
theorem doneL_no {g : List T} {l : List E} {now : Int} (h : logV g l = false) : doneL g l now = [] := by unfold doneL; rw [h]; rfl
theorem doneL_yes {g : List T} {l : List E} {now : Int} (h : logV g l = true) : doneL g l now = doneC g l now := by unfold doneL; rw [h]; rfl
theorem doneC_len (g : List T) (l : List E) (now : Int) : (doneC g l now).length ≤ g.length := pick_len _ _
theorem doneL_len (g : List T) (l : List E) (now : Int) : (doneL g l now).length ≤ g.length := by
  unfold doneL
  split
  · exact doneC_len g l now
  · simp
def busC (g : List T) (l : List E) (k : Nat) : Int := sumZ ((ovL l k).map fun x => timeOf g x.toNat)
def busL (g : List T) (l : List E) : Int := if logV g l then busC g l l.length else -1
theorem busL_no {g : List T} {l : List E} (h : logV g l = false) : busL g l = -1 := by unfold busL; rw [h]; rfl
theorem busL_yes {g : List T} {l : List E} (h : logV g l = true) : busL g l = busC g l l.length := by unfold busL; rw [h]; rfl
theorem busC_succ (g : List T) (l : List E) (k : Nat) : busC g l (k + 1) = busC g l k + (if (ge l k).over then timeOf g (ge l k).task.toNat else 0) := by
  unfold busC
  show sumZ ((if _ then _ else _ : List Int).map _) = _
  cases (ge l k).over
  · simp
  · simp only [if_true]
    rw [List.map_append, sumZ_append]
    simp [sumZ]
theorem busC_b {g : List T} {l : List E} (hF : fine g = true) : ∀ k, evK g l k = true → 0 ≤ busC g l k ∧ busC g l k ≤ 20 * k := by
  intro k
  induction k with
  | zero => intro _; simp [busC, ovL, sumZ]
  | succ k ih =>
    intro h
    rw [evK_succ, Bool.and_eq_true] at h
    have h1 := ih h.1
    obtain ⟨a1, a2, a3, t1, t2, hf⟩ := evOk_iff.1 h.2
    have hti := fine_time hF (i := (ge l k).task.toNat) (by omega)
    rw [busC_succ]
    split <;> omega
theorem sumZ_permE {l l' : List Int} (h : List.Perm l l') : sumZ l = sumZ l' := by
  induction h with
  | nil => rfl
  | cons x _ ih => simp only [sumZ]; omega
  | swap x y r => simp only [sumZ]; omega
  | trans _ _ i1 i2 => omega
/-- a list of different numbers, in order -/
theorem pick_perm {n : Nat} {L : List Int} (hn : L.Nodup) (hb : ∀ x ∈ L, 0 ≤ x ∧ x < n) : List.Perm (pick n fun t => L.contains (t : Int)) L := by
  rw [List.perm_ext_iff_of_nodup (pick_nodup _ _) hn]
  intro x
  rw [mem_pick]
  constructor
  · rintro ⟨j, _, hj, rfl⟩
    simpa using hj
  · intro hx
    have := hb x hx
    exact ⟨x.toNat, by omega, by simpa [Int.toNat_of_nonneg this.1] using hx, by omega⟩
theorem ovN_all {g : List T} {l : List E} {now : Int} : ∀ k, evK g l k = true → (200 ≤ now) → ovN l now k = ovL l k := by
  intro k
  induction k with
  | zero => intro _ _; rfl
  | succ k ih =>
    intro h hn
    rw [evK_succ, Bool.and_eq_true] at h
    obtain ⟨a1, a2, _⟩ := evOk_iff.1 h.2
    unfold ovN ovL
    rw [ih h.1 hn]
    have : decide ((ge l k).at_ ≤ now) = true := by simp; omega
    rw [this, Bool.and_true]
theorem done_busy {g : List T} {l : List E} (h : logV g l = true) : sumZ ((doneC g l 200).map fun x => timeOf g x.toNat) = busC g l l.length := by
  obtain ⟨hv, _, he⟩ := logV_iff.1 h
  have hli := LI.of (valid_fine hv) _ he
  unfold doneC busC
  rw [ovN_all _ he (by omega)]
  exact sumZ_permE ((pick_perm hli.ond hli.oin).map _)
/-- how many run -/
def rnK (l : List E) (k : Nat) : Int := ((bgL l k).length : Int) - (ovL l k).length
theorem rnK_succ (l : List E) (k : Nat) : rnK l (k + 1) = rnK l k + 1 - 2 * (if (ge l k).over then 1 else 0) := by
  unfold rnK
  show (((if _ then _ else _ : List Int).length : Int)) - ((if _ then _ else _ : List Int).length : Int) = _
  cases (ge l k).over
  · simp; omega
  · simp; omega
theorem run_count {g : List T} {l : List E} {k : Nat} (h : LI g l k) {n : Nat} (hn : g.length ≤ n) : ((pick n fun t => (bgL l k).contains (t : Int) && !(ovL l k).contains (t : Int)).length : Int) = rnK l k := by
  have p1 : List.Perm (pick n fun t => (bgL l k).contains (t : Int) && !(ovL l k).contains (t : Int)) ((bgL l k).filter fun x => !(ovL l k).contains x) := by
    rw [List.perm_ext_iff_of_nodup (pick_nodup _ _) (h.bnd.filter _)]
    intro x
    rw [mem_pick, List.mem_filter]
    constructor
    · rintro ⟨j, _, hj, rfl⟩
      rw [Bool.and_eq_true] at hj
      exact ⟨by simpa using hj.1, hj.2⟩
    · rintro ⟨hx, ho⟩
      have := h.bin x hx
      refine ⟨x.toNat, by omega, ?_, by omega⟩
      rw [Int.toNat_of_nonneg this.1, Bool.and_eq_true]
      exact ⟨by simpa using hx, ho⟩
  have p2 : List.Perm (ovL l k) ((bgL l k).filter fun x => (ovL l k).contains x) := by
    rw [List.perm_ext_iff_of_nodup h.ond (h.bnd.filter _)]
    intro x
    rw [List.mem_filter]
    constructor
    · intro hx; exact ⟨h.sub x hx, by simpa using hx⟩
    · rintro ⟨_, hx⟩; simpa using hx
  have e1 := p1.length_eq
  have e2 := p2.length_eq
  have e3 : ((bgL l k).filter fun x => (ovL l k).contains x).length + ((bgL l k).filter fun x => !(ovL l k).contains x).length = (bgL l k).length := by
    have := List.length_eq_countP_add_countP (fun x => (ovL l k).contains x) (l := bgL l k)
    rw [List.countP_eq_length_filter, List.countP_eq_length_filter] at this
    have e5 : ((bgL l k).filter fun x => !(ovL l k).contains x) = ((bgL l k).filter fun x => decide ¬ (ovL l k).contains x = true) := by
      congr 1
      funext x
      cases (ovL l k).contains x <;> rfl
    rw [e5]
    omega
  unfold rnK
  omega
theorem rnK_b {g : List T} {l : List E} {k : Nat} (h : LI g l k) : 0 ≤ rnK l k ∧ rnK l k ≤ g.length := by
  rw [← run_count h (Nat.le_refl _)]
  have := pick_len g.length (fun t => (bgL l k).contains (t : Int) && !(ovL l k).contains (t : Int))
  omega
/-- the last event of its time -/
def lastT (l : List E) (k : Nat) : Bool := decide (k + 1 = l.length) || decide ((ge l k).at_ < (ge l (k + 1)).at_)
def mtK (l : List E) : Nat → Int
  | 0 => 0
  | k + 1 => if lastT l k then max (mtK l k) (rnK l (k + 1)) else mtK l k
def mtL (g : List T) (l : List E) : Int := if logV g l then mtK l l.length else -1
theorem mtL_no {g : List T} {l : List E} (h : logV g l = false) : mtL g l = -1 := by unfold mtL; rw [h]; rfl
theorem mtL_yes {g : List T} {l : List E} (h : logV g l = true) : mtL g l = mtK l l.length := by unfold mtL; rw [h]; rfl
theorem mtK_b {g : List T} {l : List E} (hF : fine g = true) : ∀ k, evK g l k = true → 0 ≤ mtK l k ∧ mtK l k ≤ g.length := by
  intro k
  induction k with
  | zero => intro _; simp [mtK]
  | succ k ih =>
    intro h
    have h1 := ih (evK_le (by omega) h)
    have h2 := rnK_b (LI.of hF _ h)
    unfold mtK
    split <;> omega
end Go.Proofs.Ytihgakbopkaemaa.Bs
namespace Go.Proofs.Ytihgakbopkaemaa.Bs
/-- who of the first tasks is over at a time -/
def ovE (g : List T) (S : List Int) (t : Int) : Nat → List E
  | 0 => []
  | k + 1 => if giZ S k + timeOf g k == t then ovE g S t k ++ [⟨t, (k : Int), true⟩] else ovE g S t k
/-- who begins -/
def bgE (S : List Int) (t : Int) : Nat → List E
  | 0 => []
  | k + 1 => if giZ S k == t then bgE S t k ++ [⟨t, (k : Int), false⟩] else bgE S t k
/-- the events of the first times -/
def lgK (g : List T) (S : List Int) : Nat → List E
  | 0 => []
  | t + 1 => lgK g S t ++ (ovE g S (t : Int) g.length ++ bgE S (t : Int) g.length)
def logL (g : List T) (m : List Int) (wk : Int) (S : List Int) : List E := if stV g m wk S then lgK g S 221 else []
theorem ovE_len (g : List T) (S : List Int) (t : Int) : ∀ k, (ovE g S t k).length ≤ k := by
  intro k
  induction k with
  | zero => simp [ovE]
  | succ k ih =>
    show (if _ then _ else _ : List E).length ≤ _
    split
    · rw [List.length_append, List.length_singleton]; omega
    · omega
theorem bgE_len (S : List Int) (t : Int) : ∀ k, (bgE S t k).length ≤ k := by
  intro k
  induction k with
  | zero => simp [bgE]
  | succ k ih =>
    show (if _ then _ else _ : List E).length ≤ _
    split
    · rw [List.length_append, List.length_singleton]; omega
    · omega
theorem lgK_len (g : List T) (S : List Int) : ∀ t, (lgK g S t).length ≤ 2 * g.length * t := by
  intro t
  induction t with
  | zero => simp [lgK]
  | succ t ih =>
    show (_ ++ (_ ++ _) : List E).length ≤ _
    rw [List.length_append, List.length_append]
    have h1 := ovE_len g S (t : Int) g.length
    have h2 := bgE_len S (t : Int) g.length
    rw [Nat.mul_succ]
    omega
theorem lgK_len8 {g : List T} (S : List Int) {t : Nat} (h8 : g.length ≤ 8) (ht : t ≤ 221) : (lgK g S t).length ≤ 3536 := by
  have h1 := lgK_len g S t
  have h2 : 2 * g.length * t ≤ 2 * 8 * 221 := Nat.mul_le_mul (by omega) ht
  omega
theorem logL_no {g : List T} {m S : List Int} {wk : Int} (h : stV g m wk S = false) : logL g m wk S = [] := by unfold logL; rw [h]; rfl
theorem logL_yes {g : List T} {m S : List Int} {wk : Int} (h : stV g m wk S = true) : logL g m wk S = lgK g S 221 := by unfold logL; rw [h]; rfl
end Go.Proofs.Ytihgakbopkaemaa.Bs
namespace Go.Proofs.Ytihgakbopkaemaa.Bs
theorem bgM_block {l : List E} {x : Int} (t : Int) : ∀ k, (∀ j, j < k → (ge l j).at_ = x) → bgM l t k = -1 ∨ bgM l t k = x := by
  intro k
  induction k with
  | zero => intro _; left; rfl
  | succ k ih =>
    intro h
    show (if _ then _ else _ : Int) = -1 ∨ (if _ then _ else _ : Int) = x
    split
    · right; exact h k (by omega)
    · exact ih (fun j hj => h j (by omega))
theorem begin_block {g : List T} {l : List E} (hF : fine g = true) {k : Nat} (he : evOk g l k = true) (hb : ∀ j, j < k + 1 → (ge l j).at_ = (ge l 0).at_) : (ge l k).over = false := by
  have h1 := evOk_iff.1 he
  cases ho : (ge l k).over
  · rfl
  · have h2 := (fitE_over ho).1 h1.2.2.2.2.2
    have h3 := bgM_block (l := l) (x := (ge l 0).at_) (ge l k).task k (fun j hj => hb j (by omega))
    have h4 := hb k (by omega)
    obtain ⟨v, hv⟩ : ∃ v : Nat, (ge l k).task = (v : Int) := ⟨(ge l k).task.toNat, by omega⟩
    have hvl : v < g.length := by omega
    have h5 := fine_time' hF hvl
    have h6 := h2.2.2
    rw [hv, Int.toNat_natCast, timeOf_eq hvl] at h6
    rw [hv] at h3
    have h7 := h2.1
    rw [hv] at h7
    omega
theorem mt_inv {g : List T} {l : List E} (h : logV g l = true) (h0 : 0 < l.length) : ∀ k, k ≤ l.length → 1 ≤ mtK l k ∨ (k < l.length ∧ rnK l k = k ∧ ∀ j, j < k + 1 → (ge l j).at_ = (ge l 0).at_) := by
  obtain ⟨hgv, _, hev⟩ := logV_iff.1 h
  have hF := valid_fine hgv
  intro k
  induction k with
  | zero =>
    intro _
    right
    refine ⟨h0, rfl, fun j hj => ?_⟩
    obtain rfl : j = 0 := by omega
    rfl
  | succ k ih =>
    intro hk
    have hms : mtK l (k + 1) = if lastT l k then max (mtK l k) (rnK l (k + 1)) else mtK l k := rfl
    rcases ih (by omega) with h1 | ⟨_, h2, h3⟩
    · left
      rw [hms]
      split
      · rw [Int.max_def]; split <;> omega
      · exact h1
    · have he := evK_at (k := k) (by omega) hev
      have ho := begin_block hF he h3
      have hr := rnK_succ l k
      rw [ho] at hr
      simp only [Bool.false_eq_true, if_false] at hr
      cases hl : lastT l k
      · right
        have hl2 : (decide (k + 1 = l.length) || decide ((ge l k).at_ < (ge l (k + 1)).at_)) = false := hl
        rw [Bool.or_eq_false_iff, decide_eq_false_iff_not, decide_eq_false_iff_not] at hl2
        have hk1 : k + 1 < l.length := by omega
        refine ⟨hk1, by rw [hr, h2]; omega, fun j hj => ?_⟩
        by_cases hjk : j < k + 1
        · exact h3 j hjk
        · obtain rfl : j = k + 1 := by omega
          have h4 := (evOk_iff.1 (evK_at hk1 hev)).2.2.1
          have h5 : nwK l (k + 1) = (ge l k).at_ := rfl
          have h6 := h3 k (by omega)
          omega
      · left
        rw [hms, hl, if_pos rfl, hr, h2, Int.max_def]
        split <;> omega
theorem mt_pos {g : List T} {l : List E} (h : logV g l = true) (h0 : 0 < l.length) : 1 ≤ mtK l l.length := by
  rcases mt_inv h h0 l.length (Nat.le_refl _) with h1 | ⟨h1, _⟩
  · exact h1
  · omega
theorem mt_law {g : List T} {l : List E} (h : logV g l = true) : 0 ≤ mtL g l ∧ mtL g l ≤ g.length ∧ (1 ≤ mtL g l ↔ 0 < l.length) := by
  obtain ⟨hgv, _, hev⟩ := logV_iff.1 h
  have hb := mtK_b (valid_fine hgv) l.length hev
  rw [mtL_yes h]
  refine ⟨hb.1, hb.2, fun hx => ?_, fun hx => mt_pos h hx⟩
  rcases Nat.eq_zero_or_pos l.length with h0 | h0
  · rw [h0] at hx
    simp [mtK] at hx
  · exact h0
end Go.Proofs.Ytihgakbopkaemaa.Bs
