/- Cmp, by the model's entry for internal/bytealg.Compare; what it leaves behind: blocks of its own, and draws -/
import Derived.Test.YtpfbfhigelbfcaaGreatSd3
import Derived.Test.YtpfbfhigelbfcaaGreatSd6
import Derived.Lib.BytesEntry
import Derived.Sort.Grow
import Derived.Laws.Externs
set_option linter.unusedSimpArgs false
set_option linter.unusedVariables false
namespace Go.Proofs.YtpfbfhigelbfcaaGreat
open Go.RowKit Go.Lib
def dcmp (a b : List Int) : Int := if dlt a b = true then -1 else if a = b then 0 else 1
theorem u8_of (x : Int) (h : 0 ≤ x ∧ x < 256) : (UInt8.ofNat x.toNat).toNat = x.toNat := by
 rw [UInt8.toNat_ofNat']; omega
theorem cmpbytes_is : ∀ (a b : List Int), a.length = b.length → (∀ j, 0 ≤ a.getD j 0 ∧ a.getD j 0 < 256) → (∀ j, 0 ≤ b.getD j 0 ∧ b.getD j 0 < 256) → compareBytes (bytesOf a) (bytesOf b) = dcmp a b
 | [], [], _, _, _ => rfl
 | [], _ :: _, h, _, _ => by simp at h
 | _ :: _, [], h, _, _ => by simp at h
 | x :: xs, y :: ys, h, ha, hb => by
   have ih := cmpbytes_is xs ys (by simpa using h) (fun j => by simpa using ha (j + 1)) (fun j => by simpa using hb (j + 1))
   have hx : 0 ≤ x ∧ x < 256 := by simpa using ha 0
   have hy : 0 ≤ y ∧ y < 256 := by simpa using hb 0
   have e1 := u8_of x hx
   have e2 := u8_of y hy
   show (if UInt8.ofNat x.toNat < UInt8.ofNat y.toNat then (-1 : Int) else if UInt8.ofNat y.toNat < UInt8.ofNat x.toNat then 1 else compareBytes (bytesOf xs) (bytesOf ys)) = _
   have f1 : UInt8.ofNat x.toNat < UInt8.ofNat y.toNat ↔ x < y := by rw [UInt8.lt_iff_toNat_lt, e1, e2]; omega
   have f2 : UInt8.ofNat y.toNat < UInt8.ofNat x.toNat ↔ y < x := by rw [UInt8.lt_iff_toNat_lt, e1, e2]; omega
   rw [ih]
   unfold dcmp
   rw [dlt]
   by_cases h1 : x = y
   ·subst h1
    rw [if_neg (fun h => absurd (f1.1 h) (by omega)), if_neg (fun h => absurd (f1.1 h) (by omega))]
    simp
   ·by_cases h2 : x < y
    ·rw [if_pos (f1.2 h2), if_neg h1]; simp [h2]
    ·rw [if_neg (fun h => h2 (f1.1 h)), if_pos (f2.2 (by omega)), if_neg h1]; simp [h2, h1]
theorem run_bytesOf_bs {P : Program} {w : World} {b off n c : Nat} {xs : List Int} (h : Bs w (some ⟨b, off, none⟩) n xs) : (Extern.Bytes.bytesOf (.slice (some ⟨b, off, none⟩) n c)).run P w = .ok ⟨(bytesOf xs).toArray⟩ w := by
 obtain ⟨hx, hby, h3⟩ := h
 have hc : ∀ i, i < n → w.cell? ⟨b, off + i, none⟩ = some (.int .u8 (xs.getD i 0)) := by
  rcases h3 with h0 | ⟨b', off', hp, hc⟩
  ·intro i hi; omega
  ·simp only [Option.some.injEq, Addr.mk.injEq, and_true] at hp
   obtain ⟨rfl, rfl⟩ := hp
   exact hc
 have hl := run_loadBytesX (P := P) w xs ⟨b, off, none⟩ .empty (fun j x hj => by
  have hjl : j < xs.length := (List.getElem?_eq_some_iff.1 hj).1
  have e : (⟨b, off, none⟩ : Addr).add j = ⟨b, off + j, none⟩ := by unfold Addr.add; split <;> simp_all
  rw [e, hc j (by omega), List.getD_eq_getElem?_getD, hj]
  rfl)
 rw [hx] at hl
 have he : (⟨ByteArray.empty.data ++ (bytesOf xs).toArray⟩ : ByteArray) = ⟨(bytesOf xs).toArray⟩ := by
  apply ByteArray.ext
  show (#[] : Array UInt8) ++ (bytesOf xs).toArray = (bytesOf xs).toArray
  simp
 rw [he] at hl
 exact hl
theorem run_compare_bs {P : Program} {w : World} {b1 o1 n1 c1 b2 o2 n2 c2 : Nat} {xs ys : List Int} (h1 : Bs w (some ⟨b1, o1, none⟩) n1 xs) (h2 : Bs w (some ⟨b2, o2, none⟩) n2 ys) :
 (Extern.BytealgCompare.compare #[.slice (some ⟨b1, o1, none⟩) n1 c1, .slice (some ⟨b2, o2, none⟩) n2 c2]).run P w = .ok (.int .i64 (compareBytes (bytesOf xs) (bytesOf ys))) w := by
 change Sem.run P (do pure (goInt (Extern.BytealgCompare.cmp (← Extern.Bytes.bytesOf (.slice (some ⟨b1, o1, none⟩) n1 c1)) (← Extern.Bytes.bytesOf (.slice (some ⟨b2, o2, none⟩) n2 c2))))) w = _
 simp only [Sem.run_bind, run_bytesOf_bs h1, run_bytesOf_bs h2, Sem.run_pure, Result.andThen]
 rw [cmp_eq]
 rfl
set_option maxRecDepth 100000 in
theorem bcompare_any {b1 o1 n1 c1 b2 o2 n2 c2 : Nat} {xs ys : List Int} (w : World) (h1 : Bs w (some ⟨b1, o1, none⟩) n1 xs) (h2 : Bs w (some ⟨b2, o2, none⟩) n2 ys) :
 Calls Tryz.prog 165 #[.slice (some ⟨b1, o1, none⟩) n1 c1, .slice (some ⟨b2, o2, none⟩) n2 c2] w fun e w' => e = .returned (.int .i64 (compareBytes (bytesOf xs) (bytesOf ys))) ∧ w' = w := by
 have H1 := Lib.hid h1
 have H2 := Lib.hid h2
 clear h1 h2
 go_enter Tryz.func165, Tryz.ntmps165
 go_wp2
 rw [run_callFunc_extern Tryz.func183 (by kernel_rfl) (by kernel_rfl) (by kernel_rfl) (e := Extern.BytealgCompare.compare) (by kernel_rfl), run_compare_bs H1.out H2.out]
 simp only [Result.andThen]
 rw [Oper.upon_value]
 go_wp2
 go_ret
 exact ⟨rfl, rfl⟩
set_option maxRecDepth 100000 in
theorem cmp_grow (a b : List Int) (w : World) (ha : dok a) (hb : dok b) : Calls Tryz.prog 143 #[.agg (bcs a), .agg (bcs b)] w fun e w' => e = .returned (.int .i64 (dcmp a b)) ∧ ∃ q os', w' = Go.Sort.grow (w.drewN q) os' := by
 have HA := Lib.hid ha
 have HB := Lib.hid hb
 have HYA : Hid (Yw ((w.alloc (.cells (bcs a) 35)).alloc (.cells (bcs b) 35)) w.heap.size 35 a) := Lib.hid (Yw.later (w := w.alloc (.cells (bcs a) 35)) (heap_alloc_new _ _) ((Below.refl _ _).alloc (Nat.le_refl _) _))
 have HYB : Hid (Yw ((w.alloc (.cells (bcs a) 35)).alloc (.cells (bcs b) 35)) (w.heap.size + 1) 35 b) := Lib.hid (by
  have h := heap_alloc_new (w.alloc (.cells (bcs a) 35)) (.cells (bcs b) 35)
  rw [World.size_alloc] at h
  exact h)
 have HQ : Hid (∃ os', (w.alloc (.cells (bcs a) 35)).alloc (.cells (bcs b) 35) = Go.Sort.grow w os') := Lib.hid ⟨#[.cells (bcs a) 35] ++ #[.cells (bcs b) 35], by rw [← Go.Sort.grow_grow]; rfl⟩
 have HC : Hid (∀ W : World, Yw W w.heap.size 35 a → Yw W (w.heap.size + 1) 35 b → Calls Tryz.prog 165 #[.slice (some ⟨w.heap.size, 0, none⟩) 32 32, .slice (some ⟨w.heap.size + 1, 0, none⟩) 32 32] W fun e w' => e = .returned (.int .i64 (dcmp a b)) ∧ w' = W) := Lib.hid (by
  intro W h1 h2
  have h := bcompare_any (c1 := 32) (c2 := 32) W (h1.bs ha.2 32 ha.1) (h2.bs hb.2 32 hb.1)
  rwa [cmpbytes_is a b (by rw [ha.1, hb.1]) ha.2 hb.2] at h)
 clear ha hb
 generalize hc : dcmp a b = c at *
 go_enter Tryz.func143, Tryz.ntmps143
 go_wp2_with fail
 generalize (w.alloc (.cells (bcs a) 35)).alloc (.cells (bcs b) 35) = w0 at *
 go_quiet ((go_at_call 165; exact Calls.quiet_of_same (HC.out _ (HYA.out.later (below_drewN (Below.refl _ _) _)) (HYB.out.later (below_drewN (Below.refl _ _) _)))))
 go_wp2
 go_ret
 obtain ⟨os', h⟩ := HQ.out
 subst h
 exact ⟨rfl, nq, os', rfl⟩
end Go.Proofs.YtpfbfhigelbfcaaGreat

