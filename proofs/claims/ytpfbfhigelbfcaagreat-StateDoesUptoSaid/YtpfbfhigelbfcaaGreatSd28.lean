/- slices.symMergeCmpFunc at rows of words: a merge by its two halves; slices.stableCmpFunc and slices.SortStableFunc at rows of words -/
import Derived.Test.YtpfbfhigelbfcaaGreatSd1
import Derived.Test.YtpfbfhigelbfcaaGreatSd27
set_option linter.unusedSimpArgs false
set_option linter.unusedVariables false
namespace Go.Proofs.YtpfbfhigelbfcaaGreat
open Go.Shelf Go.RowKit Go.Lib Go.Sort
variable {α : Type} [Inhabited α] {P : Program} {k : Nat} {enc : α → List Value} {key : α → Int} {cf : α → α → Int} {g : Nat} {cb : Array Value} {blk off size : Nat} {w : World}
theorem srt_mid (X A Z : List α) (hA : Srt key A) (q r : Nat) (h1 : X.length ≤ q) (h2 : q ≤ r) (h3 : r < X.length + A.length) : key (X ++ (A ++ Z)).toArray[q]! ≤ key (X ++ (A ++ Z)).toArray[r]! := by
 obtain ⟨q', rfl⟩ : ∃ q', q = X.length + q' := ⟨q - X.length, by omega⟩
 obtain ⟨r', rfl⟩ : ∃ r', r = X.length + r' := ⟨r - X.length, by omega⟩
 have hr : r' < A.length := by omega
 rw [get_mid _ _ _ q' (by omega), get_mid _ _ _ r' hr]
 rcases Nat.lt_or_ge q' r' with h | h
 ·have := List.pairwise_iff_getElem.1 hA q' r' (by omega) hr h
  rw [getElem!_pos A q' (by omega), getElem!_pos A r' hr]; exact this
 ·obtain rfl : q' = r' := by omega
  exact Int.le_refl _
/-- merges of at most N elements -/
def SymOk {α : Type} [Inhabited α] (P : Program) (k : Nat) (enc : α → List Value) (key : α → Int) (g : Nat) (cb : Array Value) (blk off size : Nat) (w : World) (cap N : Nat) : Prop :=
 ∀ (X A B Z : List α) (a mm b m : Nat) (os : Array Obj), A.length + B.length ≤ N → 0 < A.length → 0 < B.length → Srt key A → Srt key B → (X ++ (A ++ (B ++ Z))).length = size → a = X.length → mm = X.length + A.length → b = X.length + A.length + B.length →
   Calls P 125 #[.slice (some ⟨blk, off, none⟩) size cap, .int .i64 a, .int .i64 mm, .int .i64 b, .func (.func g) #[] cb] (sortWorldK enc k w blk off m (X ++ (A ++ (B ++ Z))).toArray os) fun e w' =>
    e = .returned (.tuple #[]) ∧ ∃ m' os', w' = sortWorldK enc k w blk off m' (X ++ (sortK key (A ++ B) ++ Z)).toArray os'
/-- what a call with these bounds makes of one row -/
def Becomes {α : Type} [Inhabited α] (P : Program) (f : Nat) (k : Nat) (enc : α → List Value) (g : Nat) (cb : Array Value) (blk off size cap : Nat) (w : World) (a b c : Nat) (D D' : Array α) : Prop :=
 ∀ m os, Calls P f #[.slice (some ⟨blk, off, none⟩) size cap, .int .i64 a, .int .i64 b, .int .i64 c, .func (.func g) #[] cb] (sortWorldK enc k w blk off m D os) fun e w' => e = .returned (.tuple #[]) ∧ ∃ m' os', w' = sortWorldK enc k w blk off m' D' os'
set_option maxHeartbeats 2000000 in
theorem sym_parts (L : StbLay P k) (E : StbEnv P k enc key cf g cb blk off size w) (cap N : Nat) (IH : SymOk P k enc key g cb blk off size w cap N) (X A B Z : List α) (hA : Srt key A) (hB : Srt key B) (hl : (X ++ (A ++ (B ++ Z))).length = size) (hA2 : 2 ≤ A.length) (hB2 : 2 ≤ B.length) (hN : A.length + B.length ≤ N + 1)
 (a mm b mid n s e : Nat) (ha : a = X.length) (hmm : mm = X.length + A.length) (hb : b = X.length + A.length + B.length) (hmid : mid = (a + b) / 2) (hn : n = mid + mm) (hse : s + e = n) (has : a ≤ s) (hsm : s ≤ mm) (hsd : s ≤ mid) (heb : e ≤ b) (D : Array α) (hD : D = (X ++ (A ++ (B ++ Z))).toArray)
 (c1 : s < mm → mm < e → key D[e - 1]! < key D[s]!) (c2 : a < s → e < b → key D[s - 1]! ≤ key D[e]!) :
 ∃ D1 D2 : Array α, (s < mm → mm < e → Becomes P 149 k enc g cb blk off size cap w s mm e D D1) ∧ (¬ (s < mm ∧ mm < e) → D = D1) ∧
   (a < s → s < mid → Becomes P 125 k enc g cb blk off size cap w a s mid D1 D2) ∧ (¬ (a < s ∧ s < mid) → D1 = D2) ∧
   (mid < e → e < b → Becomes P 125 k enc g cb blk off size cap w mid e b D2 (X ++ (sortK key (A ++ B) ++ Z)).toArray) ∧ (¬ (mid < e ∧ e < b) → D2 = (X ++ (sortK key (A ++ B) ++ Z)).toArray) := by
 obtain ⟨A1, A2, hA12, lA1, lA2⟩ : ∃ A1 A2, A = A1 ++ A2 ∧ A1.length = s - a ∧ A2.length = mm - s := ⟨A.take (s - a), A.drop (s - a), (List.take_append_drop _ _).symm, by rw [List.length_take]; omega, by rw [List.length_drop]; omega⟩
 obtain ⟨B1, B2, hB12, lB1, lB2⟩ : ∃ B1 B2, B = B1 ++ B2 ∧ B1.length = e - mm ∧ B2.length = b - e := ⟨B.take (e - mm), B.drop (e - mm), (List.take_append_drop _ _).symm, by rw [List.length_take]; omega, by rw [List.length_drop]; omega⟩
 subst hA12 hB12
 rw [List.length_append] at hmm hb hA2 hB2 hN
 rw [List.length_append] at hb hN
 have gA1 : ∀ (q : Nat) (h : q < A1.length), D[a + q]! = A1[q] := fun q h => by
  rw [hD, ha, show X ++ (A1 ++ A2 ++ (B1 ++ B2 ++ Z)) = X ++ (A1 ++ (A2 ++ (B1 ++ (B2 ++ Z)))) by simp, get_mid _ _ _ q h, getElem!_pos A1 q h]
 have gA2 : ∀ (q : Nat) (h : q < A2.length), D[s + q]! = A2[q] := fun q h => by
  rw [hD, show s = (X ++ A1).length by rw [List.length_append]; omega, show X ++ (A1 ++ A2 ++ (B1 ++ B2 ++ Z)) = (X ++ A1) ++ (A2 ++ (B1 ++ (B2 ++ Z))) by simp, get_mid _ _ _ q h, getElem!_pos A2 q h]
 have gB1 : ∀ (q : Nat) (h : q < B1.length), D[mm + q]! = B1[q] := fun q h => by
  rw [hD, show mm = (X ++ (A1 ++ A2)).length by rw [List.length_append, List.length_append]; omega, show X ++ (A1 ++ A2 ++ (B1 ++ B2 ++ Z)) = (X ++ (A1 ++ A2)) ++ (B1 ++ (B2 ++ Z)) by simp, get_mid _ _ _ q h, getElem!_pos B1 q h]
 have gB2 : ∀ (q : Nat) (h : q < B2.length), D[e + q]! = B2[q] := fun q h => by
  rw [hD, show e = (X ++ (A1 ++ A2) ++ B1).length by rw [List.length_append, List.length_append, List.length_append]; omega, show X ++ (A1 ++ A2 ++ (B1 ++ B2 ++ Z)) = (X ++ (A1 ++ A2) ++ B1) ++ (B2 ++ Z) by simp, get_mid _ _ _ q h, getElem!_pos B2 q h]
 have h21 : ∀ x ∈ A2, ∀ y ∈ B1, key y < key x := fun x hx y hy => by
  obtain ⟨i, hi, rfl⟩ := List.mem_iff_getElem.1 hx
  obtain ⟨j, hj, rfl⟩ := List.mem_iff_getElem.1 hy
  have h := c1 (by omega) (by omega)
  have e1 := gB1 (e - 1 - mm) (by omega)
  have e2 := gA2 0 (by omega)
  rw [show mm + (e - 1 - mm) = e - 1 by omega] at e1
  rw [Nat.add_zero] at e2
  rw [e1, e2] at h
  have h3 : key (A2[0]'(by omega)) ≤ key A2[i] := by
   rcases Nat.eq_zero_or_pos i with h0 | h0
   ·subst h0; exact Int.le_refl _
   ·exact List.pairwise_iff_getElem.1 hA.right 0 i (by omega) hi h0
  have h4 : key B1[j] ≤ key (B1[e - 1 - mm]'(by omega)) := by
   rcases Nat.lt_or_ge j (e - 1 - mm) with h0 | h0
   ·exact List.pairwise_iff_getElem.1 hB.left j (e - 1 - mm) hj (by omega) h0
   ·have : j = e - 1 - mm := by omega
    subst this; exact Int.le_refl _
  omega
 have h12 : ∀ x ∈ A1, ∀ y ∈ B2, key x ≤ key y := fun x hx y hy => by
  obtain ⟨i, hi, rfl⟩ := List.mem_iff_getElem.1 hx
  obtain ⟨j, hj, rfl⟩ := List.mem_iff_getElem.1 hy
  have h := c2 (by omega) (by omega)
  have e1 := gA1 (s - 1 - a) (by omega)
  have e2 := gB2 0 (by omega)
  rw [show a + (s - 1 - a) = s - 1 by omega] at e1
  rw [Nat.add_zero] at e2
  rw [e1, e2] at h
  have h3 : key (B2[0]'(by omega)) ≤ key B2[j] := by
   rcases Nat.eq_zero_or_pos j with h0 | h0
   ·subst h0; exact Int.le_refl _
   ·exact List.pairwise_iff_getElem.1 hB.right 0 j (by omega) hj h0
  have h4 : key A1[i] ≤ key (A1[s - 1 - a]'(by omega)) := by
   rcases Nat.lt_or_ge i (s - 1 - a) with h0 | h0
   ·exact List.pairwise_iff_getElem.1 hA.left i (s - 1 - a) hi (by omega) h0
   ·have : i = s - 1 - a := by omega
    subst this; exact Int.le_refl _
  omega
 have hG := sortK_halves hA hB h21 h12
 have s1 : A1 = [] ∨ B1 = [] → sortK key (A1 ++ B1) = A1 ++ B1 := by
  rintro (rfl | rfl)
  ·exact sortK_self (by simpa using hB.left)
  ·rw [List.append_nil]; exact sortK_self hA.left
 have s2 : A2 = [] ∨ B2 = [] → sortK key (A2 ++ B2) = A2 ++ B2 := by
  rintro (rfl | rfl)
  ·exact sortK_self (by simpa using hB.right)
  ·rw [List.append_nil]; exact sortK_self hA.right
 have z1 : ¬ (0 < A1.length ∧ 0 < B1.length) → A1 = [] ∨ B1 = [] := fun h => by
  by_cases h0 : A1.length = 0
  ·exact Or.inl (List.length_eq_zero_iff.1 h0)
  ·exact Or.inr (List.length_eq_zero_iff.1 (by omega))
 have z2 : ¬ (0 < A2.length ∧ 0 < B2.length) → A2 = [] ∨ B2 = [] := fun h => by
  by_cases h0 : A2.length = 0
  ·exact Or.inl (List.length_eq_zero_iff.1 h0)
  ·exact Or.inr (List.length_eq_zero_iff.1 (by omega))
 have z3 : ¬ (0 < A2.length ∧ 0 < B1.length) → A2 = [] ∨ B1 = [] := fun h => by
  by_cases h0 : A2.length = 0
  ·exact Or.inl (List.length_eq_zero_iff.1 h0)
  ·exact Or.inr (List.length_eq_zero_iff.1 (by omega))
 have hl2 : X.length + (A1.length + A2.length + (B1.length + B2.length + Z.length)) = size := by rw [← hl]; simp only [List.length_append]
 have hF : X ++ (sortK key (A1 ++ A2 ++ (B1 ++ B2)) ++ Z) = (X ++ sortK key (A1 ++ B1)) ++ (sortK key (A2 ++ B2) ++ Z) := by rw [← hG]; simp
 refine ⟨(X ++ (A1 ++ (B1 ++ (A2 ++ (B2 ++ Z))))).toArray, (X ++ (sortK key (A1 ++ B1) ++ (A2 ++ (B2 ++ Z)))).toArray, fun h1 h2 => ?_, fun h => ?_, fun h1 h2 => ?_, fun h => ?_, fun h1 h2 => ?_, fun h => ?_⟩
 ·intro m os
  have h := rot_any L E cap (X ++ A1) A2 B1 (B2 ++ Z) (by omega) (by omega) (by simp only [List.length_append]; omega) s mm e (by rw [List.length_append]; omega) (by rw [List.length_append]; omega) (by rw [List.length_append]; omega) m os
  rw [show (X ++ A1) ++ (A2 ++ (B1 ++ (B2 ++ Z))) = X ++ (A1 ++ A2 ++ (B1 ++ B2 ++ Z)) by simp, ← hD, show (X ++ A1) ++ (B1 ++ (A2 ++ (B2 ++ Z))) = X ++ (A1 ++ (B1 ++ (A2 ++ (B2 ++ Z)))) by simp] at h
  refine Calls.mono h ?_
  rintro e w' ⟨rfl, m', rfl⟩
  exact ⟨rfl, m', os, rfl⟩
 ·rw [hD]
  rcases z3 (by omega) with rfl | rfl <;> simp
 ·exact fun m os => IH X A1 B1 (A2 ++ (B2 ++ Z)) a s mid m os (by omega) (by omega) (by omega) hA.left hB.left (by simp only [List.length_append]; omega) ha (by omega) (by omega)
 ·rw [s1 (z1 (by omega))]
  simp
 ·intro m os
  have h := IH (X ++ sortK key (A1 ++ B1)) A2 B2 Z mid e b m os (by omega) (by omega) (by omega) hA.right hB.right (by simp only [List.length_append, sortK_length]; omega) (by rw [List.length_append, sortK_length, List.length_append]; omega) (by rw [List.length_append, sortK_length, List.length_append]; omega) (by rw [List.length_append, sortK_length, List.length_append]; omega)
  rw [hF, show X ++ (sortK key (A1 ++ B1) ++ (A2 ++ (B2 ++ Z))) = (X ++ sortK key (A1 ++ B1)) ++ (A2 ++ (B2 ++ Z)) by simp]
  exact h
 ·rw [hF, s2 (z2 (by omega))]
  simp
/-- what a test came out as -/
def TestIs (b : Bool) (p : Prop) : Prop := b = true ↔ p
/-- where the search begins and ends -/
structure SymB (a mm mid n b s0 r0 : Nat) : Prop where
 sa : a ≤ s0
 sr : s0 ≤ r0
 rm : r0 ≤ mm
 rd : r0 ≤ mid
 nb : n ≤ s0 + b
 lo : s0 = a ∨ n = s0 + b
 hi : r0 = mm ∨ r0 = mid
set_option maxHeartbeats 8000000 in
set_option maxRecDepth 1000000 in
theorem sym_step (L : StbLay P k) (E : StbEnv P k enc key cf g cb blk off size w) (cap N : Nat) (IH : SymOk P k enc key g cb blk off size w cap N) (X A B Z : List α) (hA : Srt key A) (hB : Srt key B) (hl : (X ++ (A ++ (B ++ Z))).length = size) (hA2 : 2 ≤ A.length) (hB2 : 2 ≤ B.length) (hN : A.length + B.length ≤ N + 1)
 (a mm b : Nat) (ha : a = X.length) (hmm : mm = X.length + A.length) (hb : b = X.length + A.length + B.length) (m : Nat) (os : Array Obj) :
 Calls P 125 #[.slice (some ⟨blk, off, none⟩) size cap, .int .i64 a, .int .i64 mm, .int .i64 b, .func (.func g) #[] cb] (sortWorldK enc k w blk off m (X ++ (A ++ (B ++ Z))).toArray os) fun e w' =>
  e = .returned (.tuple #[]) ∧ ∃ m' os', w' = sortWorldK enc k w blk off m' (X ++ (sortK key (A ++ B) ++ Z)).toArray os' := by
 have mixed := L.ins.mixed; have t0 := L.ins.t0; have a0 := L.ins.a0; have z0 := L.ins.z0; have v0 := L.ins.v0; have t3 := L.ins.t3; have a3 := L.ins.a3; have z3 := L.ins.z3; have v3 := L.ins.v3; have t4 := L.ins.t4; have a4 := L.ins.a4; have z4 := L.ins.z4; have v4 := L.ins.v4; have t22 := L.ins.t22; have a22 := L.ins.a22; have z22 := L.ins.z22; have v22 := L.ins.v22; have t25 := L.ins.t25; have a25 := L.ins.a25; have z25 := L.ins.z25; have v25 := L.ins.v25; have aE := L.aE; have zE := L.zE; have tU := L.tU; have aU := L.aU; have zU := L.zU; have vU := L.vU
 simp only [stb_ren] at t0 a0 z0 v0 t3 a3 z3 v3 t4 a4 z4 v4 t22 a22 z22 v22 t25 a25 z25 v25
 have u22 := run_underlying t22
 have eR : ∀ args w, (callFunc 149 args).run P w = .ok (.enter 149 args) w := enters_of L.fR (by kernel_rfl) rfl
 have eM : ∀ args w, (callFunc 125 args).run P w = .ok (.enter 125 args) w := enters_of L.fM (by kernel_rfl) rfl
 have EE : Aside _ := E
 have hs2 := E.hsz
 have eg := E.eg
 obtain ⟨mid, hmid⟩ : ∃ mid, mid = (a + b) / 2 := ⟨_, rfl⟩
 obtain ⟨n, hn⟩ : ∃ n, n = mid + mm := ⟨_, rfl⟩
 have hbs : b ≤ size := by rw [← hl, hb]; simp; omega
 obtain ⟨D, hD⟩ : ∃ D, (X ++ (A ++ (B ++ Z))).toArray = D := ⟨_, rfl⟩
 have hds : D.size = size := by rw [← hD, List.size_toArray]; exact hl
 have HP : Hid (∀ s e : Nat, s + e = n → a ≤ s → s ≤ mm → s ≤ mid → e ≤ b → (s < mm → mm < e → key D[e - 1]! < key D[s]!) → (a < s → e < b → key D[s - 1]! ≤ key D[e]!) → _) := Lib.hid fun s e h1 h2 h3 h4 h5 c1 c2 => sym_parts L E cap N IH X A B Z hA hB hl hA2 hB2 hN a mm b mid n s e ha hmm hb hmid hn h1 h2 h3 h4 h5 D hD.symm c1 c2
 have HSA : Hid (∀ q r, a ≤ q → q ≤ r → r < mm → key D[q]! ≤ key D[r]!) := Lib.hid fun q r h1 h2 h3 => by
  rw [← hD]
  exact srt_mid X A (B ++ Z) hA q r (by omega) h2 (by omega)
 have HSB : Hid (∀ q r, mm ≤ q → q ≤ r → r < b → key D[q]! ≤ key D[r]!) := Lib.hid fun q r h1 h2 h3 => by
  rw [← hD, show X ++ (A ++ (B ++ Z)) = (X ++ A) ++ (B ++ Z) by simp]
  exact srt_mid (X ++ A) B Z hB q r (by rw [List.length_append]; omega) h2 (by rw [List.length_append]; omega)
 obtain ⟨F, hF⟩ : ∃ F, (X ++ (sortK key (A ++ B) ++ Z)).toArray = F := ⟨_, rfl⟩
 rw [hF] at HP
 rw [hD, hF]
 have hab : a + 2 ≤ mm ∧ mm + 2 ≤ b := by omega
 obtain ⟨la, hla⟩ : ∃ la, la = mm - a := ⟨_, rfl⟩
 obtain ⟨lb, hlb⟩ : ∃ lb, lb = b - mm := ⟨_, rfl⟩
 obtain ⟨sm, hsm⟩ : ∃ sm, sm = a + b := ⟨_, rfl⟩
 obtain ⟨p, hp⟩ : ∃ p, p = n - 1 := ⟨_, rfl⟩
 have d1 : (mm : Int) - (a : Int) = (la : Int) := by omega
 have d2 : (b : Int) - (mm : Int) = (lb : Int) := by omega
 have d3 : ((la : Int) == 1) = false := by
  have : (la : Int) ≠ 1 := by omega
  simpa using this
 have d4 : ((lb : Int) == 1) = false := by
  have : (lb : Int) ≠ 1 := by omega
  simpa using this
 have law : IntKind.i64.wrap (la : Int) = (la : Int) := by rw [IntKind.wrap_i64]; omega
 have lbw : IntKind.i64.wrap (lb : Int) = (lb : Int) := by rw [IntKind.wrap_i64]; omega
 have m1 : (a : Int) + (b : Int) = (sm : Int) := by omega
 have m2 : IntKind.i64.wrap (sm : Int) = (sm : Int) := by rw [IntKind.wrap_i64]; omega
 have mu : IntKind.u64.wrap (sm : Int) = (sm : Int) := wrap_u64_in (by omega) (by omega)
 have m3 : (sm : Int) / 2 = (mid : Int) := by omega
 have m4 : IntKind.i64.wrap (mid : Int) = (mid : Int) := by rw [IntKind.wrap_i64]; omega
 have n1 : (mid : Int) + (mm : Int) = (n : Int) := by omega
 have n2 : IntKind.i64.wrap (n : Int) = (n : Int) := by rw [IntKind.wrap_i64]; omega
 have p1 : (n : Int) - 1 = (p : Int) := by omega
 have p2 : IntKind.i64.wrap (p : Int) = (p : Int) := by rw [IntKind.wrap_i64]; omega
 have HN := Lib.hid (⟨hab.1, hab.2, by omega, by omega, hn, by omega, hbs, hds⟩ : a + 2 ≤ mm ∧ mm + 2 ≤ b ∧ 2 * mid ≤ a + b ∧ a + b ≤ 2 * mid + 1 ∧ n = mid + mm ∧ p + 1 = n ∧ b ≤ size ∧ D.size = size)
 clear E IH hA hB hl hA2 hB2 hN ha hmm hb hmid hn hD hds hF hla hlb hsm hp hab hbs
 go_enter L.fM, Tryz.ntmps125
 go_upto_if 140 with fail
 go_cut [20, 21] (fun sv rv wx => ∃ s0 r0 : Nat, sv = .int .i64 s0 ∧ rv = .int .i64 r0 ∧ wx = sortWorldK enc k w blk off m D os ∧ Hid (SymB a mm mid n b s0 r0))
 case first => as_aux_lemma =>
  by_cases hlt : mid < mm
  ·have c0 : (mid : Int) < (mm : Int) := by omega
   obtain ⟨s0, hs0⟩ : ∃ s0, n = s0 + b := ⟨n - b, by have := HN.out; omega⟩
   have s1 : (n : Int) - (b : Int) = (s0 : Int) := by omega
   have s2 : IntKind.i64.wrap (s0 : Int) = (s0 : Int) := by rw [IntKind.wrap_i64]; have := HN.out; omega
   have HS : Hid (SymB a mm mid n b s0 mid) := by
    have := HN.out
    exact ⟨by omega, by omega, by omega, Nat.le_refl _, by omega, Or.inr hs0, Or.inr rfl⟩
   clear hs0 hlt
   go_wp2_with fail
   go_meet
   exact ⟨s0, mid, rfl, rfl, rfl, HS⟩
  ·have c0 : ¬ (mid : Int) < (mm : Int) := by omega
   have HS : Hid (SymB a mm mid n b a mm) := by
    have := HN.out
    exact ⟨by omega, by omega, by omega, by omega, by omega, Or.inl rfl, Or.inl rfl⟩
   clear hlt
   go_wp2_with fail
   go_meet
   exact ⟨a, mm, rfl, rfl, rfl, HS⟩
 case rest => as_aux_lemma =>
  obtain ⟨s0, r0, rfl, rfl, rfl, HS⟩ := hcut
  go_wp2_with fail
  go_loopg [20, 21] (r0 - s0) (fun g1 vi vj wr => ∃ (i j m2 : Nat) (os2 : Array Obj), vi = .int .i64 i ∧ vj = .int .i64 j ∧ s0 ≤ i ∧ i ≤ j ∧ j ≤ r0 ∧ j - i ≤ g1 ∧ wr = sortWorldK enc k w blk off m2 D os2 ∧ Hid ((∀ c, s0 ≤ c → c < i → key D[c]! ≤ key D[p - c]!) ∧ (∀ c, j ≤ c → c < r0 → key D[p - c]! < key D[c]!)))
  case atStart => exact ⟨s0, r0, m, os, rfl, rfl, Nat.le_refl _, HS.out.sr, Nat.le_refl _, Nat.le_refl _, rfl, ⟨fun q h1 h2 => by omega, fun q h1 h2 => by omega⟩⟩
  case round =>
   obtain ⟨i, j, m2, os2, rfl, rfl, hsi, hij, hjr, hgk, rfl, HI⟩ := hrel
   by_cases hlt : i < j
   ·have hltz : (i : Int) < (j : Int) := by omega
    obtain ⟨c, hc⟩ : ∃ c, c = (i + j) / 2 := ⟨_, rfl⟩
    obtain ⟨s, hs⟩ : ∃ s, s = i + j := ⟨_, rfl⟩
    obtain ⟨pc, hpc⟩ : ∃ pc, pc = p - c := ⟨_, rfl⟩
    have hh := HN.out
    have hb1 := HS.out.rm
    have hb2 := HS.out.rd
    have hb3 := HS.out.nb
    have hb4 := HS.out.sa
    have s1 : (i : Int) + (j : Int) = (s : Int) := by omega
    have s2 : IntKind.i64.wrap (s : Int) = (s : Int) := by rw [IntKind.wrap_i64]; omega
    have hme2 : (s : Int) / 2 = (c : Int) := by omega
    have hmu : IntKind.u64.wrap (s : Int) = (s : Int) := wrap_u64_in (by omega) (by omega)
    have hz2 : IntKind.i64.wrap (c : Int) = (c : Int) := by rw [IntKind.wrap_i64]; omega
    have hz0 : (c : Int) < (size : Int) := by omega
    have pc1 : (p : Int) - (c : Int) = (pc : Int) := by omega
    have pc2 : IntKind.i64.wrap (pc : Int) = (pc : Int) := by rw [IntKind.wrap_i64]; omega
    have pc3 : (pc : Int) < (size : Int) := by omega
    have hz3 : IntKind.i64.wrap ((c : Int) + 1) = (c : Int) + 1 := by rw [IntKind.wrap_i64]; omega
    have HH := Lib.hid (⟨by omega, by omega, hpc⟩ : i ≤ c ∧ c < j ∧ pc = p - c)
    obtain ⟨W, cP, cQ, v, hW, lp, lq, hcg, CLS, lcP, lcQ, hv⟩ := stb_cmp EE.out m2 D os2 HN.out.2.2.2.2.2.2.2 pc c (by omega) (by omega)
    have HC : Hid ((v < 0 → ∀ c', c ≤ c' → c' < r0 → key D[p - c']! < key D[c']!) ∧ (¬ v < 0 → ∀ c', s0 ≤ c' → c' < c + 1 → key D[c']! ≤ key D[p - c']!)) := Lib.hid ⟨fun h c' h1 h2 => by
     have h3 := hv.out.1 h
     rw [hpc] at h3
     have h4 := HSA.out c c' (by omega) h1 (by omega)
     have h5 := HSB.out (p - c') (p - c) (by omega) (by omega) (by omega)
     omega, fun h c' h1 h2 => by
     have h3 : ¬ key D[pc]! < key D[c]! := fun h4 => h (hv.out.2 h4)
     rw [hpc] at h3
     have h4 := HSA.out c' c (by omega) (by omega) (by omega)
     have h5 := HSB.out (p - c) (p - c') (by omega) (by omega) (by omega)
     omega⟩
    have HGK := Lib.hid hgk
    rw [hW]
    clear hc hs hpc hh hb1 hb2 hb3 hb4 hv hW hgk
    by_cases hlv : v < 0
    ·as_aux_lemma =>
     have HV := Lib.hid (HC.out.1 hlv)
     clear HC
     go_wp2_with fail
     go_quiet_grown (first | (go_at_fn g; refine Calls.grown_of (hcg _ _)))
     go_wp2
     obtain ⟨m3, os3, hw3⟩ := CLS.out nq osq
     go_roundg (c - i)
     case measure => have := HGK.out; have := HH.out; omega
     case rel => exact ⟨i, c, m3, os3, rfl, by first | rfl | go_num, hsi, by have := HH.out; omega, by have := HH.out; omega, Nat.le_refl _, hw3, ⟨HI.out.1, HV.out⟩⟩
    ·as_aux_lemma =>
     have hlb : decide (v < 0) = false := decide_eq_false hlv
     have HV := Lib.hid (HC.out.2 hlv)
     clear HC hlv
     go_wp2_with fail
     go_quiet_grown (first | (go_at_fn g; refine Calls.grown_of (hcg _ _)))
     go_wp2
     obtain ⟨m3, os3, hw3⟩ := CLS.out nq osq
     go_roundg (j - (c + 1))
     case measure => have := HGK.out; have := HH.out; omega
     case rel => exact ⟨c + 1, j, m3, os3, by go_num, rfl, by have := HH.out; omega, by have := HH.out; omega, hjr, Nat.le_refl _, hw3, ⟨HV.out, HI.out.2⟩⟩
   ·have hltz : ¬ (i : Int) < (j : Int) := by omega
    obtain rfl : i = j := by omega
    obtain ⟨e, he⟩ : ∃ e, e = n - i := ⟨_, rfl⟩
    have hh := HN.out
    have hb := HS.out
    have hb1 := hb.rm
    have hb2 := hb.rd
    have hb3 := hb.nb
    have hb4 := hb.sa
    obtain ⟨D1, D2, q1, q2, q3, q4, q5, q6⟩ := HP.out i e (by omega) (by omega) (by omega) (by omega) (by omega) (fun h1 h2 => by
     by_cases h : i < r0
     ·have := HI.out.2 i (Nat.le_refl _) h
      rwa [show p - i = e - 1 by omega] at this
     ·rcases hb.hi with h3 | h3 <;> omega) (fun h1 h2 => by
     by_cases h : s0 < i
     ·have := HI.out.1 (i - 1) (by omega) (by omega)
      rwa [show p - (i - 1) = e by omega] at this
     ·rcases hb.lo with h3 | h3 <;> omega)
    have e1 : (n : Int) - (i : Int) = (e : Int) := by omega
    have e2 : IntKind.i64.wrap (e : Int) = (e : Int) := by rw [IntKind.wrap_i64]; omega
    have Q1 := Lib.hid q1
    have Q2 := Lib.hid q2
    have Q3 := Lib.hid q3
    have Q4 := Lib.hid q4
    have Q5 := Lib.hid q5
    have Q6 := Lib.hid q6
    clear q1 q2 q3 q4 q5 q6 HI HP HSA HSB hgk hsi hij hjr he hh hb hb1 hb2 hb3 hb4
    go_upto_region 39 with fail
    go_cut [185] (fun tv wx => ∃ bt : Bool, tv = .bool bt ∧ Hid (TestIs bt (i < mm ∧ mm < e)) ∧ wx = sortWorldK enc k w blk off m2 D os2)
    case first => as_aux_lemma =>
     by_cases h1 : i < mm
     ·have t1 : (i : Int) < (mm : Int) := by omega
      by_cases h2 : mm < e
      ·have t2 : (mm : Int) < (e : Int) := by omega
       have HB : Hid (TestIs true (i < mm ∧ mm < e)) := Lib.hid ⟨fun _ => ⟨h1, h2⟩, fun _ => rfl⟩
       clear h1 h2
       go_wp2_with fail
       go_meet
       exact ⟨true, by first | rfl | simp, HB, rfl⟩
      ·have t2 : ¬ (mm : Int) < (e : Int) := by omega
       have HB : Hid (TestIs false (i < mm ∧ mm < e)) := Lib.hid ⟨fun h => (by cases h), fun h => absurd h.2 h2⟩
       clear h1 h2
       go_wp2_with fail
       go_meet
       exact ⟨false, by first | rfl | simp, HB, rfl⟩
     ·have t1 : ¬ (i : Int) < (mm : Int) := by omega
      have HB : Hid (TestIs false (i < mm ∧ mm < e)) := Lib.hid ⟨fun h => (by cases h), fun h => absurd h.1 h1⟩
      clear h1
      go_wp2_with fail
      go_meet
      exact ⟨false, by first | rfl | simp, HB, rfl⟩
    case rest => as_aux_lemma =>
     obtain ⟨bt, rfl, HB, rfl⟩ := hcut
     go_upto_if 185 with fail
     go_cut [24] (fun ve wx => ve = .int .i64 e ∧ ∃ (m3 : Nat) (os3 : Array Obj), wx = sortWorldK enc k w blk off m3 D1 os3)
     case first => as_aux_lemma =>
      cases bt with
      | true =>
        have HC := Lib.hid (Q1.out (HB.out.1 rfl).1 (HB.out.1 rfl).2 m2 os2)
        clear HB
        go_wp2_with (go_at_fn 149; refine HC.out.mono ?_; rintro ex w1 ⟨rfl, m3, os3, rfl⟩)
        go_meet
        exact ⟨rfl, m3, os3, rfl⟩
      | false =>
        have hw : sortWorldK enc k w blk off m2 D os2 = sortWorldK enc k w blk off m2 D1 os2 := by rw [Q2.out (fun h => by have := HB.out.2 h; cases this)]
        rw [hw]
        clear hw HB
        go_wp2_with fail
        go_meet
        exact ⟨rfl, m2, os2, rfl⟩
     case rest => as_aux_lemma =>
      obtain ⟨rfl, m3, os3, rfl⟩ := hcut
      go_upto_region 41 with fail
      go_cut [199] (fun tv wx => ∃ bt : Bool, tv = .bool bt ∧ Hid (TestIs bt (a < i ∧ i < mid)) ∧ wx = sortWorldK enc k w blk off m3 D1 os3)
      case first => as_aux_lemma =>
       by_cases h1 : a < i
       ·have t1 : (a : Int) < (i : Int) := by omega
        by_cases h2 : i < mid
        ·have t2 : (i : Int) < (mid : Int) := by omega
         have HB : Hid (TestIs true (a < i ∧ i < mid)) := Lib.hid ⟨fun _ => ⟨h1, h2⟩, fun _ => rfl⟩
         clear h1 h2
         go_wp2_with fail
         go_meet
         exact ⟨true, by first | rfl | simp, HB, rfl⟩
        ·have t2 : ¬ (i : Int) < (mid : Int) := by omega
         have HB : Hid (TestIs false (a < i ∧ i < mid)) := Lib.hid ⟨fun h => (by cases h), fun h => absurd h.2 h2⟩
         clear h1 h2
         go_wp2_with fail
         go_meet
         exact ⟨false, by first | rfl | simp, HB, rfl⟩
       ·have t1 : ¬ (a : Int) < (i : Int) := by omega
        have HB : Hid (TestIs false (a < i ∧ i < mid)) := Lib.hid ⟨fun h => (by cases h), fun h => absurd h.1 h1⟩
        clear h1
        go_wp2_with fail
        go_meet
        exact ⟨false, by first | rfl | simp, HB, rfl⟩
      case rest => as_aux_lemma =>
       obtain ⟨bt, rfl, HB, rfl⟩ := hcut
       go_upto_if 199 with fail
       go_cut [24] (fun ve wx => ve = .int .i64 e ∧ ∃ (m3 : Nat) (os3 : Array Obj), wx = sortWorldK enc k w blk off m3 D2 os3)
       case first => as_aux_lemma =>
        cases bt with
        | true =>
          have HC := Lib.hid (Q3.out (HB.out.1 rfl).1 (HB.out.1 rfl).2 m3 os3)
          clear HB
          go_wp2_with (go_at_fn 125; refine HC.out.mono ?_; rintro ex w1 ⟨rfl, m4, os4, rfl⟩)
          go_meet
          exact ⟨rfl, m4, os4, rfl⟩
        | false =>
          have hw : sortWorldK enc k w blk off m3 D1 os3 = sortWorldK enc k w blk off m3 D2 os3 := by rw [Q4.out (fun h => by have := HB.out.2 h; cases this)]
          rw [hw]
          clear hw HB
          go_wp2_with fail
          go_meet
          exact ⟨rfl, m3, os3, rfl⟩
       case rest => as_aux_lemma =>
        obtain ⟨rfl, m4, os4, rfl⟩ := hcut
        go_upto_region 43 with fail
        go_cut [213] (fun tv wx => ∃ bt : Bool, tv = .bool bt ∧ Hid (TestIs bt (mid < e ∧ e < b)) ∧ wx = sortWorldK enc k w blk off m4 D2 os4)
        case first => as_aux_lemma =>
         by_cases h1 : mid < e
         ·have t1 : (mid : Int) < (e : Int) := by omega
          by_cases h2 : e < b
          ·have t2 : (e : Int) < (b : Int) := by omega
           have HB : Hid (TestIs true (mid < e ∧ e < b)) := Lib.hid ⟨fun _ => ⟨h1, h2⟩, fun _ => rfl⟩
           clear h1 h2
           go_wp2_with fail
           go_meet
           exact ⟨true, by first | rfl | simp, HB, rfl⟩
          ·have t2 : ¬ (e : Int) < (b : Int) := by omega
           have HB : Hid (TestIs false (mid < e ∧ e < b)) := Lib.hid ⟨fun h => (by cases h), fun h => absurd h.2 h2⟩
           clear h1 h2
           go_wp2_with fail
           go_meet
           exact ⟨false, by first | rfl | simp, HB, rfl⟩
         ·have t1 : ¬ (mid : Int) < (e : Int) := by omega
          have HB : Hid (TestIs false (mid < e ∧ e < b)) := Lib.hid ⟨fun h => (by cases h), fun h => absurd h.1 h1⟩
          clear h1
          go_wp2_with fail
          go_meet
          exact ⟨false, by first | rfl | simp, HB, rfl⟩
        case rest => as_aux_lemma =>
         obtain ⟨bt, rfl, HB, rfl⟩ := hcut
         cases bt with
         | true =>
           have HC := Lib.hid (Q5.out (HB.out.1 rfl).1 (HB.out.1 rfl).2 m4 os4)
           clear HB
           go_wp2_with (go_at_fn 125; refine HC.out.mono ?_; rintro ex w1 ⟨rfl, m5, os5, rfl⟩)
           go_end0
           exact ⟨rfl, m5, os5, rfl⟩
         | false =>
           have hw : sortWorldK enc k w blk off m4 D2 os4 = sortWorldK enc k w blk off m4 F os4 := by rw [Q6.out (fun h => by have := HB.out.2 h; cases this)]
           rw [hw]
           clear hw HB
           go_wp2_with fail
           go_end0
           exact ⟨rfl, m4, os4, rfl⟩
theorem sym_any (L : StbLay P k) (E : StbEnv P k enc key cf g cb blk off size w) (cap : Nat) : ∀ N, SymOk P k enc key g cb blk off size w cap N
 | 0 => fun X A B Z a mm b m os h h1 => by omega
 | N + 1 => fun X A B Z a mm b m os h h1 h2 hA hB hl ha hmm hb => by
   by_cases a1 : A.length = 1
   ·obtain ⟨x, rfl⟩ := List.length_eq_one_iff.1 a1
    exact sym_first L E cap X x B Z hB hl a mm b ha (by rw [hmm]; rfl) (by rw [hb]; rfl) m os
   by_cases b1 : B.length = 1
   ·obtain ⟨x, rfl⟩ := List.length_eq_one_iff.1 b1
    exact sym_last L E cap X A x Z hA (by omega) hl a mm b ha hmm (by rw [hb]; rfl) m os
   exact sym_step L E cap N (sym_any L E cap N) X A B Z hA hB hl (by omega) (by omega) h a mm b ha hmm hb m os
section
variable {α : Type} (key : α → Int)
/-- parts of s, sorted each -/
inductive Ch (s : Nat) : List α → Prop
 | last {A : List α} : Srt key A → A.length ≤ s → Ch s A
 | more {A Z : List α} : Srt key A → A.length = s → Ch s Z → Ch s (A ++ Z)
/-- whole parts of s ahead of others -/
def Fu (s : Nat) (X : List α) : Prop := ∀ Y, Ch key s Y → Ch key s (X ++ Y)
variable {key}
theorem Fu.nil (s : Nat) : Fu key s [] := fun Y h => h
theorem Fu.snoc {s : Nat} {X A : List α} (h : Fu key s X) (hA : Srt key A) (hl : A.length = s) : Fu key s (X ++ A) := fun Y hY => by
 rw [List.append_assoc]
 exact h _ (.more hA hl hY)
theorem Ch.sorted {s : Nat} {Y : List α} (h : Ch key s Y) (hl : Y.length ≤ s) : Srt key Y := by
 cases h with
 | last h1 h2 => exact h1
 | @more A Z h1 h2 h3 =>
   rw [List.length_append] at hl
   obtain rfl : Z = [] := List.length_eq_zero_iff.1 (by omega)
   rw [List.append_nil]; exact h1
theorem Ch.one {s : Nat} {Y : List α} (h : Ch key s Y) (h1 : s < Y.length) (h2 : Y.length < 2 * s) : ∃ A B, Y = A ++ B ∧ A.length = s ∧ 0 < B.length ∧ Srt key A ∧ Srt key B := by
 cases h with
 | last h3 h4 => omega
 | @more A Z h3 h4 h5 =>
   rw [List.length_append] at h1 h2
   exact ⟨A, Z, rfl, h4, by omega, h3, h5.sorted (by omega)⟩
theorem Ch.two {s : Nat} {Y : List α} (h : Ch key s Y) (hs : 0 < s) (h1 : 2 * s ≤ Y.length) : ∃ A B Z, Y = A ++ (B ++ Z) ∧ A.length = s ∧ B.length = s ∧ Srt key A ∧ Srt key B ∧ Ch key s Z := by
 cases h with
 | last h3 h4 => omega
 | @more A Z h3 h4 h5 =>
   rw [List.length_append] at h1
   cases h5 with
   | last h6 h7 => exact ⟨A, Z, [], by simp, h4, by omega, h3, h6, .last List.Pairwise.nil (Nat.zero_le _)⟩
   | @more B W h6 h7 h8 => exact ⟨A, B, W, rfl, h4, h7, h3, h6, h8⟩
end
variable {α : Type} [Inhabited α] {P : Program} {k : Nat} {enc : α → List Value} {key : α → Int} {cf : α → α → Int} {g : Nat} {cb : Array Value} {blk off size : Nat} {w : World}
/-- the first b elements are parts of s; what comes behind is as it was -/
def BlkA (key : α → Int) (size : Nat) (L0 : List α) (s a : Nat) (d : Array α) : Prop := ∃ X Y, d = (X ++ Y).toArray ∧ (X ++ Y).length = size ∧ X.length = a ∧ Fu key s X ∧ Eqv key (X ++ Y) L0
def BlkC (key : α → Int) (size : Nat) (L0 : List α) (s : Nat) (d : Array α) : Prop := ∃ Y, d = Y.toArray ∧ Y.length = size ∧ Ch key s Y ∧ Eqv key Y L0
def BlkB (key : α → Int) (size : Nat) (L0 : List α) (s a : Nat) (d : Array α) : Prop := ∃ X Y, d = (X ++ Y).toArray ∧ (X ++ Y).length = size ∧ X.length = a ∧ Fu key (2 * s) X ∧ Ch key s Y ∧ Eqv key (X ++ Y) L0
/-- what an insertion sort of a part does -/
def InsTo (P : Program) (k : Nat) (enc : α → List Value) (g : Nat) (cb : Array Value) (blk off size cap : Nat) (w : World) (a b : Nat) (D : Array α) (R : Array α → Prop) : Prop :=
 ∀ m os, Calls P 124 #[.slice (some ⟨blk, off, none⟩) size cap, .int .i64 a, .int .i64 b, .func (.func g) #[] cb] (sortWorldK enc k w blk off m D os) fun e w' => e = .returned (.tuple #[]) ∧ ∃ m' os' D', w' = sortWorldK enc k w blk off m' D' os' ∧ R D'
def SymTo (P : Program) (k : Nat) (enc : α → List Value) (g : Nat) (cb : Array Value) (blk off size cap : Nat) (w : World) (a mm b : Nat) (D : Array α) (R : Array α → Prop) : Prop :=
 ∀ m os, Calls P 125 #[.slice (some ⟨blk, off, none⟩) size cap, .int .i64 a, .int .i64 mm, .int .i64 b, .func (.func g) #[] cb] (sortWorldK enc k w blk off m D os) fun e w' => e = .returned (.tuple #[]) ∧ ∃ m' os' D', w' = sortWorldK enc k w blk off m' D' os' ∧ R D'
theorem blk_ins (L : StbLay P k) (E : StbEnv P k enc key cf g cb blk off size w) (cap : Nat) {L0 : List α} {s a : Nat} {d : Array α} (h : BlkA key size L0 s a d) (hb : a + s ≤ size) : InsTo P k enc g cb blk off size cap w a (a + s) d (BlkA key size L0 s (a + s)) := by
 obtain ⟨X, Y, rfl, hl, rfl, hf, he⟩ := h
 intro m os
 rw [List.length_append] at hl
 obtain ⟨A, Z, rfl, hA⟩ : ∃ A Z, Y = A ++ Z ∧ A.length = s := ⟨Y.take s, Y.drop s, (List.take_append_drop _ _).symm, by rw [List.length_take]; omega⟩
 rw [List.length_append] at hl
 have h := stb_ins L E cap X A Z (by simp only [List.length_append]; omega) m os
 rw [hA] at h
 refine Calls.mono h ?_
 rintro e w' ⟨rfl, m', os', rfl⟩
 refine ⟨rfl, m', os', _, rfl, X ++ sortK key A, Z, by simp, by simp only [List.length_append, sortK_length]; omega, by rw [List.length_append, sortK_length]; omega, hf.snoc (sortK_srt A) (by rw [sortK_length]; exact hA), ?_⟩
 refine Eqv.trans ?_ he
 rw [List.append_assoc]
 exact (Eqv.refl _).app ((sortK_eqv A).app (Eqv.refl _))
theorem blk_last (L : StbLay P k) (E : StbEnv P k enc key cf g cb blk off size w) (cap : Nat) {L0 : List α} {s a : Nat} {d : Array α} (h : BlkA key size L0 s a d) (hb : size < a + s) : InsTo P k enc g cb blk off size cap w a size d (BlkC key size L0 s) := by
 obtain ⟨X, Y, rfl, hl, rfl, hf, he⟩ := h
 intro m os
 have h := stb_ins L E cap X Y [] (by rw [List.append_nil]; exact hl) m os
 rw [List.length_append] at hl
 rw [List.append_nil, List.append_nil, show X.length + Y.length = size from hl] at h
 refine Calls.mono h ?_
 rintro e w' ⟨rfl, m', os', rfl⟩
 refine ⟨rfl, m', os', _, rfl, X ++ sortK key Y, rfl, by rw [List.length_append, sortK_length]; exact hl, hf _ (.last (sortK_srt Y) (by rw [sortK_length]; omega)), ?_⟩
 exact ((Eqv.refl _).app (sortK_eqv Y)).trans he
omit [Inhabited α] in
theorem blk_start {L0 : List α} {s : Nat} {d : Array α} (h : BlkC key size L0 s d) : BlkB key size L0 s 0 d := by
 obtain ⟨Y, rfl, hl, hc, he⟩ := h
 exact ⟨[], Y, rfl, hl, rfl, Fu.nil _, hc, he⟩
theorem blk_two (L : StbLay P k) (E : StbEnv P k enc key cf g cb blk off size w) (cap : Nat) {L0 : List α} {s a : Nat} {d : Array α} (h : BlkB key size L0 s a d) (hs : 0 < s) (hb : a + 2 * s ≤ size) : SymTo P k enc g cb blk off size cap w a (a + s) (a + 2 * s) d (BlkB key size L0 s (a + 2 * s)) := by
 obtain ⟨X, Y, rfl, hl, rfl, hf, hc, he⟩ := h
 intro m os
 rw [List.length_append] at hl
 obtain ⟨A, B, Z, rfl, hA, hB, sA, sB, hZ⟩ := hc.two hs (by omega)
 simp only [List.length_append] at hl
 have h := sym_any L E cap (A.length + B.length) X A B Z X.length (X.length + s) (X.length + 2 * s) m os (Nat.le_refl _) (by omega) (by omega) sA sB (by simp only [List.length_append]; omega) rfl (by omega) (by omega)
 refine Calls.mono h ?_
 rintro e w' ⟨rfl, m', os', rfl⟩
 refine ⟨rfl, m', os', _, rfl, X ++ sortK key (A ++ B), Z, by simp, by simp only [List.length_append, sortK_length]; omega, by rw [List.length_append, sortK_length, List.length_append]; omega, hf.snoc (sortK_srt _) (by rw [sortK_length, List.length_append]; omega), hZ, ?_⟩
 refine Eqv.trans ?_ he
 rw [List.append_assoc, ← List.append_assoc A B Z]
 exact (Eqv.refl _).app ((sortK_eqv (A ++ B)).app (Eqv.refl _))
theorem blk_one (L : StbLay P k) (E : StbEnv P k enc key cf g cb blk off size w) (cap : Nat) {L0 : List α} {s a : Nat} {d : Array α} (h : BlkB key size L0 s a d) (h1 : a + s < size) (h2 : size < a + 2 * s) : SymTo P k enc g cb blk off size cap w a (a + s) size d (BlkC key size L0 (2 * s)) := by
 obtain ⟨X, Y, rfl, hl, rfl, hf, hc, he⟩ := h
 intro m os
 rw [List.length_append] at hl
 obtain ⟨A, B, rfl, hA, hB, sA, sB⟩ := hc.one (by omega) (by omega)
 simp only [List.length_append] at hl
 have h := sym_any L E cap (A.length + B.length) X A B [] X.length (X.length + s) size m os (Nat.le_refl _) (by omega) (by omega) sA sB (by rw [List.append_nil]; simp only [List.length_append]; omega) rfl (by omega) (by omega)
 rw [List.append_nil, List.append_nil] at h
 refine Calls.mono h ?_
 rintro e w' ⟨rfl, m', os', rfl⟩
 exact ⟨rfl, m', os', _, rfl, X ++ sortK key (A ++ B), rfl, by simp only [List.length_append, sortK_length]; omega, hf _ (.last (sortK_srt _) (by rw [sortK_length, List.length_append]; omega)), ((Eqv.refl _).app (sortK_eqv (A ++ B))).trans he⟩
omit [Inhabited α] in
theorem blk_none {L0 : List α} {s a : Nat} {d : Array α} (h : BlkB key size L0 s a d) (h1 : size ≤ a + s) : BlkC key size L0 (2 * s) d := by
 obtain ⟨X, Y, rfl, hl, rfl, hf, hc, he⟩ := h
 rw [List.length_append] at hl
 exact ⟨X ++ Y, rfl, by rw [List.length_append]; exact hl, hf _ (.last (hc.sorted (by omega)) (by omega)), he⟩
omit [Inhabited α] in
theorem blk_end {L0 : List α} {s : Nat} {d : Array α} (h : BlkC key size L0 s d) (h1 : size ≤ s) : d = (sortK key L0).toArray := by
 obtain ⟨Y, rfl, hl, hc, he⟩ := h
 rw [sortK_of (hc.sorted (by omega)) he]
set_option maxHeartbeats 4000000 in
set_option maxRecDepth 1000000 in
theorem stable_any (L : StbLay P k) (E : StbEnv P k enc key cf g cb blk off size w) (cap : Nat) (L0 : List α) (hl : L0.length = size) (hsz : size ≤ 1099511627776) (m : Nat) (os : Array Obj) :
 Calls P 95 #[.slice (some ⟨blk, off, none⟩) size cap, .int .i64 (size : Nat), .func (.func g) #[] cb] (sortWorldK enc k w blk off m L0.toArray os) fun e w' =>
  e = .returned (.tuple #[]) ∧ ∃ m' os', w' = sortWorldK enc k w blk off m' (sortK key L0).toArray os' := by
 have mixed := L.ins.mixed; have t0 := L.ins.t0; have a0 := L.ins.a0; have z0 := L.ins.z0; have v0 := L.ins.v0; have t3 := L.ins.t3; have a3 := L.ins.a3; have z3 := L.ins.z3; have v3 := L.ins.v3; have t4 := L.ins.t4; have a4 := L.ins.a4; have z4 := L.ins.z4; have v4 := L.ins.v4; have t22 := L.ins.t22; have a22 := L.ins.a22; have z22 := L.ins.z22; have v22 := L.ins.v22; have t25 := L.ins.t25; have a25 := L.ins.a25; have z25 := L.ins.z25; have v25 := L.ins.v25; have aE := L.aE; have zE := L.zE
 simp only [stb_ren] at t0 a0 z0 v0 t3 a3 z3 v3 t4 a4 z4 v4 t22 a22 z22 v22 t25 a25 z25 v25
 have eI : ∀ args w, (callFunc 124 args).run P w = .ok (.enter 124 args) w := L.ins.f20.enters rfl
 have eM : ∀ args w, (callFunc 125 args).run P w = .ok (.enter 125 args) w := enters_of L.fM (by kernel_rfl) rfl
 have EE : Aside _ := E
 have HI := Lib.hid (fun (s a : Nat) (d : Array α) h hb => blk_ins (L0 := L0) (s := s) (a := a) (d := d) L E cap h hb)
 have HL := Lib.hid (fun (s a : Nat) (d : Array α) h hb => blk_last (L0 := L0) (s := s) (a := a) (d := d) L E cap h hb)
 have HTW := Lib.hid (fun (s a : Nat) (d : Array α) h hs hb => blk_two (L0 := L0) (s := s) (a := a) (d := d) L E cap h hs hb)
 have HON := Lib.hid (fun (s a : Nat) (d : Array α) h h1 h2 => blk_one (L0 := L0) (s := s) (a := a) (d := d) L E cap h h1 h2)
 have H0 : Hid (BlkA key size L0 20 0 L0.toArray) := Lib.hid ⟨[], L0, rfl, hl, rfl, Fu.nil _, Eqv.refl _⟩
 obtain ⟨D, hD⟩ : ∃ D, L0.toArray = D := ⟨_, rfl⟩
 rw [hD] at H0 ⊢
 clear E hl hD
 go_enter L.fB, Tryz.ntmps95
 go_wp2
 go_loopg [7, 8] (size + 20) (fun g1 va vb wr => ∃ (a b m2 : Nat) (d : Array α) (os2 : Array Obj), va = .int .i64 a ∧ vb = .int .i64 b ∧ b ≤ size + 20 ∧ size + 20 - b ≤ g1 ∧ wr = sortWorldK enc k w blk off m2 d os2 ∧ Hid (b = a + 20) ∧ Hid (BlkA key size L0 20 a d))
 case atStart => exact ⟨0, 20, m, D, os, rfl, rfl, by omega, by omega, rfl, rfl, H0⟩
 case round =>
  obtain ⟨a, b, m2, d, os2, rfl, rfl, hbs, hgk, rfl, HB, HA⟩ := hrel
  by_cases hlt : b ≤ size
  ·as_aux_lemma =>
   have hltz : (b : Int) ≤ (size : Int) := by omega
   obtain ⟨b', hb'⟩ : ∃ b', b' = b + 20 := ⟨_, rfl⟩
   have b1 : (b : Int) + 20 = (b' : Int) := by omega
   have b2 : IntKind.i64.wrap (b' : Int) = (b' : Int) := by rw [IntKind.wrap_i64]; omega
   have HC : Hid (InsTo P k enc g cb blk off size cap w a b d (BlkA key size L0 20 b)) := by
    have := HI.out 20 a d HA.out (by have := HB.out; omega)
    rw [← HB.out] at this
    exact this
   have HM := Lib.hid (⟨hb', by omega, by omega⟩ : b' = b + 20 ∧ b' ≤ size + 20 ∧ size + 20 - b' < gk)
   clear hb' hgk hlt
   go_wp2_with (go_at_fn 124; refine (HC.out _ _).mono ?_; rintro ex w1 ⟨rfl, m3, os3, d3, rfl, HA3⟩; replace HA3 := Lib.hid HA3)
   go_roundg (size + 20 - b')
   case measure => exact HM.out.2.2
   case rel => exact ⟨b, b', m3, d3, os3, by first | rfl | go_num, by first | rfl | go_num, HM.out.2.1, Nat.le_refl _, rfl, HM.out.1, HA3⟩
  ·as_aux_lemma =>
   have hltz : ¬ (b : Int) ≤ (size : Int) := by omega
   have HC : Hid (InsTo P k enc g cb blk off size cap w a size d (BlkC key size L0 20)) := HL.out 20 a d HA.out (by have := HB.out; omega)
   clear hgk hlt hbs HA HB HI HL H0
   go_wp2_with (go_at_fn 124; refine (HC.out _ _).mono ?_; rintro ex w1 ⟨rfl, m3, os3, d3, rfl, HA3⟩; replace HA3 := Lib.hid HA3)
   go_loopg [6] (2 * size + 20) (fun g1 vs wr => ∃ (s m2 : Nat) (d : Array α) (os2 : Array Obj), vs = .int .i64 s ∧ 0 < s ∧ s ≤ 2 * size + 20 ∧ 2 * size + 20 - s ≤ g1 ∧ wr = sortWorldK enc k w blk off m2 d os2 ∧ Hid (BlkC key size L0 s d))
   case atStart => exact ⟨20, m3, d3, os3, by first | rfl | go_num, by omega, by omega, by omega, rfl, HA3⟩
   case round =>
    obtain ⟨s, m4, d4, os4, rfl, hs0, hsb, hgs, rfl, HS⟩ := hrel
    by_cases hlt : s < size
    ·as_aux_lemma =>
     have hltz : (s : Int) < (size : Int) := by omega
     obtain ⟨s2, hs2⟩ : ∃ s2, s2 = 2 * s := ⟨_, rfl⟩
     have q1 : 2 * (s : Int) = (s2 : Int) := by omega
     have q2 : IntKind.i64.wrap (s2 : Int) = (s2 : Int) := by rw [IntKind.wrap_i64]; omega
     have q3 : (s : Int) * 2 = (s2 : Int) := by omega
     have hs3 : s2 < 2 * size := by omega
     have HS2 := Lib.hid (⟨hs2, hs0, by omega⟩ : s2 = 2 * s ∧ 0 < s ∧ 2 * size + 20 - s2 < gk)
     have HS0 := Lib.hid (blk_start HS.out)
     clear hs2 hgs hsb
     go_wp2_with fail
     go_loopg [7, 8] (size + s2) (fun g1 va vb wr => ∃ (a b m2 : Nat) (d : Array α) (os2 : Array Obj), va = .int .i64 a ∧ vb = .int .i64 b ∧ b ≤ size + s2 ∧ size + s2 - b ≤ g1 ∧ wr = sortWorldK enc k w blk off m2 d os2 ∧ Hid (b = a + s2) ∧ Hid (BlkB key size L0 s a d))
     case atStart => exact ⟨0, s2, m4, d4, os4, by first | rfl | go_num, by first | rfl | go_num, by omega, by omega, rfl, by show s2 = 0 + s2; omega, HS0⟩
     case round =>
      obtain ⟨a, b, m5, d5, os5, rfl, rfl, hbs, hgk, rfl, HB, HA⟩ := hrel
      obtain ⟨mm, hmm⟩ : ∃ mm, mm = a + s := ⟨_, rfl⟩
      have m1 : (a : Int) + (s : Int) = (mm : Int) := by omega
      have mw : IntKind.i64.wrap (mm : Int) = (mm : Int) := by rw [IntKind.wrap_i64]; have := HB.out; omega
      by_cases hlb : b ≤ size
      ·as_aux_lemma =>
       have hlbz : (b : Int) ≤ (size : Int) := by omega
       obtain ⟨b', hb'⟩ : ∃ b', b' = b + s2 := ⟨_, rfl⟩
       have b1 : (b : Int) + (s2 : Int) = (b' : Int) := by omega
       have b2 : IntKind.i64.wrap (b' : Int) = (b' : Int) := by rw [IntKind.wrap_i64]; omega
       have HC : Hid (SymTo P k enc g cb blk off size cap w a mm b d5 (BlkB key size L0 s b)) := by
        have := HTW.out s a d5 HA.out HS2.out.2.1 (by have := HB.out; have := HS2.out; omega)
        rw [← HS2.out.1, ← HB.out, ← hmm] at this
        exact this
       have HM := Lib.hid (⟨hb', by omega, by have := HS2.out; omega⟩ : b' = b + s2 ∧ b' ≤ size + s2 ∧ size + s2 - b' < gk)
       clear hb' hgk hlb hmm
       go_wp2_with (go_at_fn 125; refine (HC.out _ _).mono ?_; rintro ex w1 ⟨rfl, m6, os6, d6, rfl, HA6⟩; replace HA6 := Lib.hid HA6)
       go_roundg (size + s2 - b')
       case measure => exact HM.out.2.2
       case rel => exact ⟨b, b', m6, d6, os6, by first | rfl | go_num, by first | rfl | go_num, HM.out.2.1, Nat.le_refl _, rfl, HM.out.1, HA6⟩
      ·as_aux_lemma =>
       have hlbz : ¬ (b : Int) ≤ (size : Int) := by omega
       by_cases hm : mm < size
       ·have hmz : (mm : Int) < (size : Int) := by omega
        have HC : Hid (SymTo P k enc g cb blk off size cap w a mm size d5 (BlkC key size L0 s2)) := by
         have := HON.out s a d5 HA.out (by omega) (by have := HB.out; have := HS2.out; omega)
         rw [← HS2.out.1, ← hmm] at this
         exact this
        clear hgk hlb hmm hbs hm
        go_wp2_with (go_at_fn 125; refine (HC.out _ _).mono ?_; rintro ex w1 ⟨rfl, m6, os6, d6, rfl, HA6⟩; replace HA6 := Lib.hid HA6)
        go_roundg (2 * size + 20 - s2)
        case measure => exact HS2.out.2.2
        case rel => exact ⟨s2, m6, d6, os6, by first | rfl | go_num, by have := HS2.out; omega, by omega, Nat.le_refl _, rfl, HA6⟩
       ·have hmz : ¬ (mm : Int) < (size : Int) := by omega
        have HC : Hid (BlkC key size L0 s2 d5) := by
         have := blk_none HA.out (by omega)
         rw [← HS2.out.1] at this
         exact this
        clear hgk hlb hmm hbs hm
        go_wp2_with fail
        go_roundg (2 * size + 20 - s2)
        case measure => exact HS2.out.2.2
        case rel => exact ⟨s2, m5, d5, os5, by first | rfl | go_num, by have := HS2.out; omega, by omega, Nat.le_refl _, rfl, HC⟩
    ·have hltz : ¬ (s : Int) < (size : Int) := by omega
     have HF := Lib.hid (blk_end HS.out (by omega))
     clear hgs hlt hsb
     go_wp2
     go_end0
     exact ⟨rfl, m4, os4, by rw [HF.out]⟩
set_option maxHeartbeats 1000000 in
theorem sstable_any (L : StbLay P k) (E : StbEnv P k enc key cf g cb blk off size w) (cap : Nat) (L0 : List α) (hl : L0.length = size) (hsz : size ≤ 1099511627776) (m : Nat) (os : Array Obj) :
 Calls P 57 #[.slice (some ⟨blk, off, none⟩) size cap, .func (.func g) #[] cb] (sortWorldK enc k w blk off m L0.toArray os) fun e w' =>
  e = .returned (.tuple #[]) ∧ ∃ m' os', w' = sortWorldK enc k w blk off m' (sortK key L0).toArray os' := by
 have mixed := L.ins.mixed; have t0 := L.ins.t0; have a0 := L.ins.a0; have z0 := L.ins.z0; have v0 := L.ins.v0; have t3 := L.ins.t3; have a3 := L.ins.a3; have z3 := L.ins.z3; have v3 := L.ins.v3; have t22 := L.ins.t22; have a22 := L.ins.a22; have z22 := L.ins.z22; have v22 := L.ins.v22; have t25 := L.ins.t25; have a25 := L.ins.a25; have z25 := L.ins.z25; have v25 := L.ins.v25
 simp only [stb_ren] at t0 a0 z0 v0 t3 a3 z3 v3 t22 a22 z22 v22 t25 a25 z25 v25
 have u22 := run_underlying t22
 have eB : ∀ args w, (callFunc 95 args).run P w = .ok (.enter 95 args) w := enters_of L.fB (by kernel_rfl) rfl
 have HC := Lib.hid (stable_any L E cap L0 hl hsz m os)
 clear E hl
 go_enter L.fT, Tryz.ntmps57
 go_wp2_with (go_at_fn 95; refine HC.out.mono ?_; rintro ex w1 ⟨rfl, m3, os3, rfl⟩)
 go_end0
 exact ⟨rfl, m3, os3, rfl⟩
end Go.Proofs.YtpfbfhigelbfcaaGreat

