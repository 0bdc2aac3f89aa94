/- The walk of the statement ShaPieces. -/
import Derived.Test.YtmnomdghelcdjaaDoorShaE
namespace Go.Proofs.YtmnomdghelcdjaaDoor
set_option linter.unusedVariables false
open Go.RowKit Go.Lib

/-- the first k pieces, one behind the other -/
def cat (Z : Nat → List Int) : Nat → List Int
  | 0 => []
  | k + 1 => cat Z k ++ Z k

theorem Ob.grown {w w' : World} {B b : Nat} {e : TypeId} {v : Value} {zs : List Int} (h : Ob w B e v zs) (hg : w.grownBy w' (some b)) (hb : b < B) : Ob w' B e v zs := by
  obtain ⟨h1, hl, h2⟩ := h
  refine ⟨h1, hl, ?_⟩
  rcases h2 with h2 | ⟨g, cap, cur, hv, hB, hgc, r⟩
  · exact Or.inl h2
  · have hlt : g < w.heap.size := (Array.getElem?_eq_some_iff.1 hgc).1
    exact Or.inr ⟨g, cap, cur, hv, hB, by rw [hg.block g hlt (by simp; omega)]; exact hgc, r⟩
theorem Hw.keep {w w' : World} {b : Nat} {zs : List Int} (h : Hw w b zs) (e : w'.heap[b]? = w.heap[b]?) : Hw w' b zs := by
  obtain ⟨blk, h1, h2⟩ := h
  exact ⟨blk, h1.keep e, h2⟩
theorem Hw.lt {w : World} {b : Nat} {zs : List Int} (h : Hw w b zs) : b < w.heap.size := by
  obtain ⟨blk, h1, _⟩ := h
  exact h1.lt
theorem Hw.later {w w' : World} {b : Nat} {zs : List Int} (h : Hw w b zs) (hb : Below w.heap.size w w') : Hw w' b zs := h.keep (hb.block b h.lt)
theorem Ob.openB {w : World} {B : Nat} {e : TypeId} {v : Value} {zs : List Int} (h : Ob w B e v zs) :
    ∃ p cap, v = .slice p zs.length cap ∧ zs.length ≤ cap ∧ cap ≤ maxLen ∧ Bs w p zs.length zs ∧ (∀ a, p = some a → a.block < w.heap.size) := by
  obtain ⟨p, cap, rfl, h1, h2, h3, h4⟩ := h.open
  refine ⟨p, cap, rfl, h1, h2, h3, fun a ha => ?_⟩
  subst ha
  exact (h.2.lt a.block rfl).2

theorem ob_bs {w : World} {B n c : Nat} {e : TypeId} {p : Option Addr} {zs : List Int} (h : Ob w B e (.slice p n c) zs) : Bs w p n zs := by
  obtain ⟨p', c', hv, _, _, h3, _⟩ := h.openB
  simp only [Value.slice.injEq] at hv
  obtain ⟨rfl, rfl, rfl⟩ := hv
  exact h3
theorem ob_blk {w : World} {B n c : Nat} {e : TypeId} {p : Option Addr} {zs : List Int} (h : Ob w B e (.slice p n c) zs) : ∀ a, p = some a → a.block < w.heap.size := by
  obtain ⟨p', c', hv, _, _, _, h4⟩ := h.openB
  simp only [Value.slice.injEq] at hv
  obtain ⟨rfl, rfl, rfl⟩ := hv
  exact h4
/-- what came in: pieces -/
def Pc (w : World) (p : Option Addr) (n : Nat) (A : Nat → Option Addr) (L C : Nat → Nat) (Z : Nat → List Int) : Prop :=
  ∀ r, r < n → (∃ b off, p = some ⟨b, off, none⟩ ∧ w.cell? ⟨b, off + r, none⟩ = some (.slice (A r) (L r) (C r))) ∧ L r ≤ C r ∧ C r ≤ maxLen ∧ (A r = none → C r = 0) ∧ Bs w (A r) (L r) (Z r)
/-- .. and bools -/
def Bo (w : World) (p : Option Addr) (n : Nat) (F : Nat → Bool) : Prop := ∀ r, r < n → ∃ b off, p = some ⟨b, off, none⟩ ∧ w.cell? ⟨b, off + r, none⟩ = some (.bool (F r))

theorem cell_later' {w w' : World} {a : Addr} {v : Value} (hb : Below w.heap.size w w') (h : w.cell? a = some v) : w'.cell? a = some v := by
  rw [hb.cell (World.block_lt_of_cell? w _ h)]; exact h

set_option maxHeartbeats 1000000 in
set_option maxRecDepth 100000 in
theorem shapieces_walk (p q : Option Addr) (n c m d : Nat) (A : Nat → Option Addr) (L C : Nat → Nat) (Z : Nat → List Int) (F : Nat → Bool) (w : World) (hP : Pc w p n A L C Z) (hB : Bo w q m F) (hn : n ≤ 1048576) (hm : m ≤ maxLen) (hsum : ∀ k, k ≤ n → (cat Z k).length ≤ 1048576) (hK : Kw w) :
    Calls Tryd.prog 4 #[.slice p n c, .slice q m d] w fun e w' => e = .returned (.bool true) ∧ Below w.heap.size w w' := by
  have HP := Lib.hid hP
  have HBo := Lib.hid hB
  have HSM := Lib.hid hsum
  have HK := Lib.hid hK
  have HPOS := Lib.hid hK.pos
  clear hP hB hsum hK
  go_enter Tryd.func4, Tryd.ntmps4
  go_wp2_with fail
  refine (snew_at _ w.heap.size rfl).mono ?_
  rintro e w1 ⟨rfl, hH1, hb1⟩
  have HH1 := Lib.hid hH1
  have HB1 := Lib.hid hb1
  clear hH1 hb1
  go_wp2
  go_loopw [6, 7] (fun v i wr => ∃ k : Nat, k ≤ n ∧ i = .int .i64 k ∧ Hid (Ob wr (w.heap.size + 1) 5 v (cat Z k)) ∧ Hid (Hw wr w.heap.size (cat Z k)) ∧ Hid (Below w.heap.size w wr)) (fun _ i _ => n - (intOf i).toNat)
  case atStart => exact ⟨0, by omega, rfl, Lib.hid (Ob.nil _ _ _), HH1, HB1⟩
  case round =>
    obtain ⟨k, hk, rfl, hob, hh, hbl⟩ := hrel
    have HN := Lib.hid hh.out.lt
    have hHK := Lib.hid (HK.out.later hbl.out HPOS.out)
    by_cases hlt : k < n
    · obtain ⟨⟨b, off, rfl, hcell⟩, hL1, hL2, hL3, hL4⟩ := HP.out k hlt
      have ck := cell_later' hbl.out hcell
      have HBS := Lib.hid (hL4.later hbl.out)
      have HLC := Lib.hid hL1
      have HCM := Lib.hid hL2
      have HNIL := Lib.hid hL3
      have HNE : Hid (Away (A k) (L k) w.heap.size) := Lib.hid (hL4.away (Nat.le_refl _))
      have HS1 := Lib.hid (HSM.out (k + 1) hlt)
      have HL : Hid ((cat Z k).length + L k ≤ 1048576) := Lib.hid (by have h1 := HSM.out (k + 1) hlt; simp only [cat, List.length_append, hL4.len] at h1; exact h1)
      clear hcell hL1 hL2 hL3 hL4
      have HBN : Hid (b ≠ w.heap.size) := Lib.hid (by
        obtain ⟨⟨b', off', hp', hc'⟩, _⟩ := HP.out k hlt
        simp only [Option.some.injEq, Addr.mk.injEq, and_true] at hp'
        obtain ⟨rfl, rfl⟩ := hp'
        exact Nat.ne_of_lt (World.block_lt_of_cell? w _ hc'))
      go_wp2_with fail
      refine (swrite_any w.heap.size (A k) (L k) (C k) (Z k) (cat Z k) _ hh.out HBS.out HLC.out HCM.out HNE.out hHK.out (by have := HPOS.out; omega) (by have := HL.out; omega)).mono ?_
      rintro e w2 ⟨rfl, hh2, hg2⟩
      have ck2 : w2.cell? ⟨b, off + k, none⟩ = some (.slice (A k) (L k) (C k)) := by
        rw [World.cell?_of_block (hg2.block b (World.block_lt_of_cell? wr _ ck) (by simpa using HBN.out))]; exact ck
      have hob2 : Ob w2 (w.heap.size + 1) 5 u6 (cat Z k) := hob.out.grown hg2 (Nat.lt_succ_self _)
      have hbs2 := HBS.out.grown hg2 HNE.out
      have hbl2 : Below w.heap.size w w2 := hbl.out.trans (grown_to_below hg2 (Nat.le_refl _) (Nat.le_of_lt HN.out))
      have hs2 : w.heap.size + 1 ≤ w2.heap.size := Nat.le_trans HN.out hg2.size
      have HH2 := Lib.hid hh2
      have HO2 := Lib.hid hob2
      have HBS2 := Lib.hid hbs2
      have HB2 := Lib.hid hbl2
      have HS2 := Lib.hid hs2
      have HBY : Hid ((cat Z k).length + L k ≤ 140737488355328) := Lib.hid (by have := HL.out; omega)
      clear ck hh hob hbl HBS HNE hHK HN hh2 hg2 hob2 hbs2 hbl2 hs2
      by_cases hka : k < m
      · obtain ⟨b3, o3, rfl, hc3⟩ := HBo.out k hka
        by_cases hF : F k = true
        · rw [hF] at hc3
          have HC3 := Lib.hid hc3
          have hka' : (k : Int) < (m : Int) := by omega
          clear hF hc3
          go_wp2_with (refine wpList_append_bytes rfl _ _ 22 5 rfl Tryd.underlying22 info8 (w.heap.size + 1) _ (cat Z k) rfl HO2.out (A k) (L k) (C k) (Z k) rfl HBS2.out HNIL.out HBY.out HS2.out ?_; intro v' w3 hob3 hg3; have HO3 := Lib.hid hob3; have HB3 := Lib.hid (below_new (HB2.out) (Ob.mono HO2.out (Nat.le_succ _)) hg3 (Nat.le_of_lt HS2.out)); have HH3 := Lib.hid (HH2.out.keep (hg3.block _ HH2.out.lt (fun e => by have := HO2.out.2.lt _ e.symm; omega))); have c3 := cell_later' HB3.out HC3.out; clear hob3 hg3)
          have HO3' : Hid (Ob w3 (w.heap.size + 1) 5 v' (cat Z (k + 1))) := HO3
          have HH3' : Hid (Hw w3 w.heap.size (cat Z (k + 1))) := HH3
          refine (ssum_any w.heap.size (cat Z (k + 1)) _ HH3'.out (HK.out.later HB3.out HPOS.out) (by have := HS1.out; omega)).mono ?_
          rintro e w4 ⟨rfl, hb4⟩
          have HO4 := Lib.hid (HO3'.out.later hb4)
          have HH4 := Lib.hid (HH3'.out.later hb4)
          have HB4 := Lib.hid (below_step HB3.out hb4)
          obtain ⟨p4, c4, rfl, hlc4, hcm4, hbs4, hblk4⟩ := HO4.out.openB
          have hq := sha_same (cat Z (k + 1))
          clear hb4 HO3 HO3' HH3 HH3'
          go_wp2_with fail
          refine (ssha_any p4 _ c4 (cat Z (k + 1)) _ hbs4 hlc4 hcm4 (HK.out.later HB4.out HPOS.out) (by have := HS1.out; omega)).mono ?_
          rintro e w5 ⟨rfl, hb5⟩
          have HO5 := Lib.hid (HO4.out.later hb5)
          have HH5 := Lib.hid (HH4.out.later hb5)
          have HB5 := Lib.hid (below_step HB4.out hb5)
          clear hb5 HO4 HH4 HB4 hlc4 hcm4 hbs4 hblk4
          go_wp2
          refine ⟨?_, by simp [intOf]; omega⟩
          first
            | exact ⟨k + 1, by omega, by go_num, HO5, HH5, HB5⟩
            | ((repeat apply Exists.intro); refine ⟨?rel, rfl⟩; exact ⟨k + 1, by omega, by go_num, HO5, HH5, HB5⟩)
        · have hF' : F k = false := by simpa using hF
          rw [hF'] at hc3
          have HC3 := Lib.hid hc3
          have hka' : (k : Int) < (m : Int) := by omega
          clear hF hF' hc3
          go_wp2_with (refine wpList_append_bytes rfl _ _ 22 5 rfl Tryd.underlying22 info8 (w.heap.size + 1) _ (cat Z k) rfl HO2.out (A k) (L k) (C k) (Z k) rfl HBS2.out HNIL.out HBY.out HS2.out ?_; intro v' w3 hob3 hg3; have HO3 := Lib.hid hob3; have HB3 := Lib.hid (below_new (HB2.out) (Ob.mono HO2.out (Nat.le_succ _)) hg3 (Nat.le_of_lt HS2.out)); have HH3 := Lib.hid (HH2.out.keep (hg3.block _ HH2.out.lt (fun e => by have := HO2.out.2.lt _ e.symm; omega))); have c3 := cell_later' HB3.out HC3.out; clear hob3 hg3)
          refine ⟨?_, by simp [intOf]; omega⟩
          first
            | exact ⟨k + 1, by omega, by go_num, HO3, HH3, HB3⟩
            | ((repeat apply Exists.intro); refine ⟨?rel, rfl⟩; exact ⟨k + 1, by omega, by go_num, HO3, HH3, HB3⟩)
      · have hka' : (m : Int) ≤ (k : Int) := by omega
        clear hka
        go_wp2_with (refine wpList_append_bytes rfl _ _ 22 5 rfl Tryd.underlying22 info8 (w.heap.size + 1) _ (cat Z k) rfl HO2.out (A k) (L k) (C k) (Z k) rfl HBS2.out HNIL.out HBY.out HS2.out ?_; intro v' w3 hob3 hg3; have HO3 := Lib.hid hob3; have HB3 := Lib.hid (below_new (HB2.out) (Ob.mono HO2.out (Nat.le_succ _)) hg3 (Nat.le_of_lt HS2.out)); have HH3 := Lib.hid (HH2.out.keep (hg3.block _ HH2.out.lt (fun e => by have := HO2.out.2.lt _ e.symm; omega))); clear hob3 hg3)
        refine ⟨?_, by simp [intOf]; omega⟩
        first
          | exact ⟨k + 1, by omega, by go_num, HO3, HH3, HB3⟩
          | ((repeat apply Exists.intro); refine ⟨?rel, rfl⟩; exact ⟨k + 1, by omega, by go_num, HO3, HH3, HB3⟩)
    · obtain rfl : k = n := by omega
      have HL : Hid ((cat Z k).length ≤ 1048576) := Lib.hid (HSM.out k (Nat.le_refl _))
      have hge : ¬ ((k : Int) < (k : Int)) := by omega
      obtain ⟨p4, c4, rfl, hlc4, hcm4, hbs4, hblk4⟩ := hob.out.openB
      have hq := sha_same (cat Z k)
      have HC4 := Lib.hid hlc4
      have HM4 := Lib.hid hcm4
      clear hlc4 hcm4 hbs4 hblk4 hHK HN HSM HP HBo hlt
      go_wp2_with fail
      refine (ssum_any w.heap.size (cat Z k) _ hh.out (HK.out.later hbl.out HPOS.out) (by have := HL.out; omega)).mono ?_
      rintro e w2 ⟨rfl, hb2⟩
      have HO2 := Lib.hid (hob.out.later hb2)
      have HH2 := Lib.hid (hh.out.later hb2)
      have HB2 := Lib.hid (below_step hbl.out hb2)
      clear hob hh hbl hb2
      go_wp2_with fail
      refine (ssha_any p4 _ c4 (cat Z k) _ (ob_bs HO2.out) HC4.out HM4.out (HK.out.later HB2.out HPOS.out) (by have := HL.out; omega)).mono ?_
      rintro e w3 ⟨rfl, hb3⟩
      have HO3 := Lib.hid (HO2.out.later hb3)
      have HH3 := Lib.hid (HH2.out.later hb3)
      have HB3 := Lib.hid (below_step HB2.out hb3)
      clear HO2 HH2 HB2 hb3
      go_wp2_with fail
      refine (ssum_any w.heap.size (cat Z k) _ HH3.out (HK.out.later HB3.out HPOS.out) (by have := HL.out; omega)).mono ?_
      rintro e w4 ⟨rfl, hb4⟩
      have HO4 := Lib.hid (HO3.out.later hb4)
      have HH4 := Lib.hid (HH3.out.later hb4)
      have HB4 := Lib.hid (below_step HB3.out hb4)
      clear HO3 HH3 HB3 hb4
      go_wp2_with fail
      refine (ssha_any p4 _ c4 (cat Z k) _ (ob_bs HO4.out) HC4.out HM4.out (HK.out.later HB4.out HPOS.out) (by have := HL.out; omega)).mono ?_
      rintro e w5 ⟨rfl, hb5⟩
      have HO5 := Lib.hid (HO4.out.later hb5)
      have HH5 := Lib.hid (HH4.out.later hb5)
      have HB5 := Lib.hid (below_step HB4.out hb5)
      clear HO4 HH4 HB4 hb5
      go_wp2_with fail
      refine (slen_any w.heap.size (cat Z k) _ HH5.out).mono ?_
      rintro e w6 ⟨rfl, rfl⟩
      go_wp2_with fail
      refine (slives_any _ (HK.out.later HB5.out HPOS.out)).mono ?_
      rintro e w7 ⟨rfl, hb7⟩
      have HB7 := Lib.hid (below_step HB5.out hb7)
      clear hb7
      go_wp2
      go_ret
      exact ⟨rfl, HB7.out⟩
end Go.Proofs.YtmnomdghelcdjaaDoor
