/- Appending leaves the elements that were there. -/
import Derived.Test.YtlggbicjgddnaaaDoorNum
namespace Go.Proofs.YtlggbicjgddnaaaDoor
set_option linter.unusedVariables false
open Go.RowKit Go.Lib
variable {P : Program} {k : IntKind}

/-- What an append leaves of the row that it was given: its elements stay where they were. -/
theorem append_keeps {w w' : World} {v' : Value} (t ty e : TypeId) (i : TypeInfo) (z : Value) (bytes : Nat) (ht : P.underlying t = some (.slice e)) (hi : P.info? e = some i) (hz : i.zero = some z) (hsize : i.size = 1) (hby : i.bytes = bytes)
    (B g n cap : Nat) (xs : List Value) (hown : w.ownsRow B e 1 (.slice (some ⟨g, 0, none⟩) n cap) n xs)
    (a : Addr) (m c : Nat) (news : List Value) (hl : news.length = m) (hnews : ∀ j u, news[j]? = some u → w.cell? (a.add j) = some u) (h1 : ∀ u ∈ news, u.oneCell' = true)
    (hlen : n + m ≤ maxLen) (hbytes : (n + m) * bytes ≤ 140737488355328)
    (hrun : (Builtin.append_ #[t, t] ty #[.slice (some ⟨g, 0, none⟩) n cap, .slice (some a) m c]).run P w = .ok v' w') : ∀ j, j < n → w'.cell? ⟨g, j, none⟩ = w.cell? ⟨g, j, none⟩ := by
  obtain ⟨hxl, h2⟩ := hown
  rcases h2 with ⟨h3, _⟩ | ⟨g', cap', cur, hv, hB, hg, hn, hm, hs, htk⟩
  · cases h3
  · simp only [Value.slice.injEq, Option.some.injEq, Addr.mk.injEq, and_true] at hv
    obtain ⟨rfl, _, rfl⟩ := hv
    intro j hj
    by_cases hroom : n + m ≤ cap
    · have hr := run_append_room (P := P) w t ty e i ht hi g n cap cur hg a m c news (by rw [hsize, hl, Nat.mul_one]) hnews h1 hroom (by rw [hsize, hl]; omega)
      rw [hr] at hrun
      simp only [Result.ok.injEq] at hrun
      obtain ⟨_, rfl⟩ := hrun
      rw [cell_of_row _ g j _ _ _ (setRow_heap w g cur _ e _ hg), cell_of_row w g j cur _ _ hg, hsize, Nat.mul_one]
      simp only [List.getElem?_toArray, List.append_assoc]
      rw [List.getElem?_append_left (by simp; omega), List.getElem?_take, if_pos hj, Array.getElem?_toList]
    · have ho : w.ownsRow B e 1 (.slice (some ⟨g, 0, none⟩) n cap) n xs := ⟨hxl, Or.inr ⟨g, cap, cur, rfl, hB, hg, hn, hm, hs, htk⟩⟩
      have hr := run_append_grow (P := P) w t ty e i z ht hi hz ⟨g, 0, none⟩ n cap xs (by rw [hsize]; exact hxl) (ho.cells rfl) a m c news (by rw [hsize, hl, Nat.mul_one]) hnews (by omega) (by unfold maxLen at hlen; omega) (by rw [hby]; exact growslice_fits (by omega) hbytes)
      rw [hr] at hrun
      simp only [Result.ok.injEq] at hrun
      obtain ⟨_, rfl⟩ := hrun
      exact World.cell?_alloc_lt _ _ _ (show g < w.drew.heap.size from (Array.getElem?_eq_some_iff.1 hg).1)

/-- 'append(s, x...)', s a row of the call's own that is not nil, x numbers that lie somewhere: what was there stays where it was. At one operation. -/
theorem wp_append_keep {w : World} {o : Oper} {a : Act} {K : Act → World → Prop} {Q : Exit → Act → World → Prop} (s x : Operand) (t e : TypeId)
    (ho : o.op = .call { callee := .builtin .append, args := #[s, x], argTypes := #[t, t] }) (ht : P.underlying t = some (.slice e)) (bytes : Nat)
    (hinfo : (P.info? e).map (fun i => (i.zero, i.size, i.bytes)) = some (some (.int k 0), 1, bytes))
    (B g n cap : Nat) (l : List Nat) (hs : a.eval s = .slice (some ⟨g, 0, none⟩) n cap) (hob : On k w B e (.slice (some ⟨g, 0, none⟩) n cap) l) (b off m c : Nat) (ys : List Nat) (hx : a.eval x = .slice (some ⟨b, off, none⟩) m c) (hbs : Nw k w (some ⟨b, off, none⟩) m ys)
    (hlen : l.length + m ≤ maxLen) (hbytes : (l.length + m) * bytes ≤ 140737488355328) (hB : B ≤ w.heap.size)
    (h : ∀ v' w', On k w' B e v' (l ++ ys) → w.grownBy w' (some g) → (∀ j, j < n → w'.cell? ⟨g, j, none⟩ = w.cell? ⟨g, j, none⟩) → K (a.put o.dst v') w') : o.wp P a w K Q := by
  obtain ⟨i, hi, hzz⟩ := Option.map_eq_some_iff.1 hinfo
  simp only [Prod.mk.injEq] at hzz
  obtain ⟨hz, hsz, hb⟩ := hzz
  obtain ⟨hy1, hy3⟩ := hbs
  have hln := hob.len
  have hnews : ∀ j u, (ys.map (nv k))[j]? = some u → w.cell? ((⟨b, off, none⟩ : Addr).add j) = some u := by
    intro j u hu
    have hj : j < m := by
      rcases Nat.lt_or_ge j m with h | h
      · exact h
      · rw [List.getElem?_eq_none (by simpa [hy1] using h)] at hu; cases hu
    rcases hy3 with h0 | ⟨b', off', hp, hc⟩
    · omega
    · simp only [Option.some.injEq, Addr.mk.injEq, and_true] at hp
      obtain ⟨rfl, rfl⟩ := hp
      rw [WideShapes.add_plain, hc j hj]
      rw [List.getElem?_map] at hu
      rw [List.getD_eq_getElem?_getD]
      rw [List.getElem?_eq_getElem (by omega)] at hu ⊢
      simpa [nv] using hu
  have h1c : ∀ u ∈ ys.map (nv k), u.oneCell' = true := by
    intro u hu
    obtain ⟨z, _, rfl⟩ := List.mem_map.1 hu
    rfl
  have hob' : w.ownsRow B e 1 (.slice (some ⟨g, 0, none⟩) n cap) l.length (l.map (nv k)) := hob
  obtain ⟨v', w', hr, h2, h3, _⟩ := run_append_own (P := P) w B t o.type e i (.int k 0) 1 bytes ht hi hz hsz hb rfl (by decide) _ _ _ hob' ⟨b, off, none⟩ m c (ys.map (nv k)) (by simpa using hy1) hnews h1c hlen hbytes hB
  have hk := append_keeps t o.type e i (.int k 0) bytes ht hi hz hsz hb B g n cap (l.map (nv k)) (by rw [← hln]; rw [← hln] at hob'; exact hob') ⟨b, off, none⟩ m c (ys.map (nv k)) (by simpa using hy1) hnews h1c (by rw [← hln]; exact hlen) (by rw [← hln]; exact hbytes) hr
  unfold Oper.wp execOp
  simp only [ho, resolve, invoke, builtin, Sem.run_bind, Sem.run_pure, Result.andThen_ok, List.map_toArray, List.map_cons, List.map_nil, hs, hx, hr]
  refine h v' w' ?_ h3 hk
  unfold On
  rw [List.length_append, hy1, List.map_append]
  exact h2
theorem step_append_keep {w : World} {ops : Array Oper} {o : Oper} {a : Act} {K : Act → World → Prop} {Q : Exit → Act → World → Prop} {E : Prop} (hgd : o.guard = none) (s x : Operand) (t e : TypeId)
    (ho : o.op = .call { callee := .builtin .append, args := #[s, x], argTypes := #[t, t] }) (ht : P.underlying t = some (.slice e)) (bytes : Nat)
    (hinfo : (P.info? e).map (fun i => (i.zero, i.size, i.bytes)) = some (some (.int k 0), 1, bytes))
    (B g n cap : Nat) (l : List Nat) (hs : a.eval s = .slice (some ⟨g, 0, none⟩) n cap) (hob : On k w B e (.slice (some ⟨g, 0, none⟩) n cap) l) (b off m c : Nat) (ys : List Nat) (hx : a.eval x = .slice (some ⟨b, off, none⟩) m c) (hbs : Nw k w (some ⟨b, off, none⟩) m ys)
    (hlen : l.length + m ≤ maxLen) (hbytes : (l.length + m) * bytes ≤ 140737488355328) (hB : B ≤ w.heap.size)
    (h : ∀ v' w', On k w' B e v' (l ++ ys) → w.grownBy w' (some g) → (∀ j, j < n → w'.cell? ⟨g, j, none⟩ = w.cell? ⟨g, j, none⟩) → K (a.put o.dst v') w') : if Region.wanted o (yielded ops a.tmps) = true then Oper.wp P o a w K Q else E := by
  have hw : Region.wanted o (yielded ops a.tmps) = true := by simp [Region.wanted, hgd]
  rw [if_pos hw]
  exact wp_append_keep s x t e ho ht bytes hinfo B g n cap l hs hob b off m c ys hx hbs hlen hbytes hB h
end Go.Proofs.YtlggbicjgddnaaaDoor
