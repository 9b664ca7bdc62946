/- moietylaw10: begin. -/
import Derived.Test.YtjkbhaplngnniaaDoorPg7
namespace Go.Proofs.YtjkbhaplngnniaaDoor
open Go.RowKit Go.Maps
set_option linter.unusedSimpArgs false
set_option linter.unusedVariables false

/-- A play in memory. -/
structure PlayM (w : World) (t g q : Nat) (codes : Int) (tv : Value) : Prop where
  c0 : w.cell? ⟨t, 0, none⟩ = some (.pointer (some ⟨g, 0, none⟩))
  c1 : w.cell? ⟨t, 1, none⟩ = some (.pointer (some ⟨q, 0, none⟩))
  c2 : w.cell? ⟨t, 2, none⟩ = some (.int .i64 codes)
  c3 : w.cell? ⟨t, 3, none⟩ = some (.int .i64 (lvls codes))
  c4 : w.cell? ⟨t, 4, none⟩ = some tv
  fz : ∀ j, w.frozen? ⟨t, j, none⟩ = false
structure BegP (w : World) (room codes : Int) (t g p q tb : Nat) (w' : World) : Prop where
  ba : BA w w' p q (fun j => j = g ∨ j = t ∨ j = tb) room 0 (fun _ => 0) (fun _ => zNd) 0 0 (fun _ => 0) (fun _ => zNd) 0
  pg : PG w' g p codes
  pl : PlayM w' t g q codes (.slice (some ⟨tb, 0, none⟩) 1 1)
  ow : w'.ownsRow w.heap.size 49 3 (.slice (some ⟨tb, 0, none⟩) 1 1) 1 [.int .i64 0, .int .i64 0, .int .i64 1]
  d1 : t ≠ tb
  d2 : t ≠ g
  d3 : g ≠ tb
theorem l10_beginBad (room codes : Int) (w : World) (h : ¬ (1 ≤ room ∧ room ≤ 20000 ∧ 1 ≤ codes ∧ codes ≤ 1024)) : Calls Tryd.prog 16 #[.int .i64 room, .int .i64 codes] w fun e w' => e = .returned (.pointer none) ∧ Kept w w' := by
  by_cases hr : 1 ≤ room ∧ room ≤ 20000
  · have hc : ¬ (1 ≤ codes ∧ codes ≤ 1024) := fun e => h ⟨hr.1, hr.2, e.1, e.2⟩
    have HN1 := hidMk (arena_New room w hr.1 hr.2)
    have HN2 := hidMk (fun W => r9_New room W hr.1 hr.2)
    have HN3 := hidMk (fun p W => pages_NewBad p codes W hc)
    clear h hr hc
    go_enter Tryd.func16, Tryd.ntmps16
    go_wp2_with fail
    refine HN1.out.mono ?_
    rintro e w1 ⟨rfl, hn1⟩
    have HK1 := hidMk hn1.kept
    clear hn1
    go_wp2_with fail
    refine (HN2.out _).mono ?_
    rintro e w2 ⟨rfl, hr2, hk2⟩
    have HK2 := hidMk (HK1.out.trans hk2)
    clear hr2 hk2
    go_wp2_with fail
    refine (HN3.out _ _).mono ?_
    rintro e w3 ⟨rfl, hw3⟩
    rw [hw3]
    go_wp2_with fail
    go_ret
    exact ⟨rfl, HK2.out⟩
  · have HN1 := hidMk (arena_NewBad room w hr)
    have HN2 := hidMk (r9_NewBad room w hr)
    clear h hr
    go_enter Tryd.func16, Tryd.ntmps16
    go_wp2_with fail
    refine HN1.out.mono ?_
    rintro e w1 ⟨rfl, hw1⟩
    rw [hw1]
    go_wp2_with fail
    refine HN2.out.mono ?_
    rintro e w2 ⟨rfl, hw2⟩
    rw [hw2]
    go_wp2_with fail
    go_ret
    exact ⟨rfl, Kept.refl _⟩
theorem l10_begin (room codes : Int) (w : World) (r1 : 1 ≤ room) (r2 : room ≤ 20000) (c1 : 1 ≤ codes) (c2 : codes ≤ 1024) : Calls Tryd.prog 16 #[.int .i64 room, .int .i64 codes] w fun e w' => ∃ t g p q tb, e = .returned (.pointer (some ⟨t, 0, none⟩)) ∧ BegP w room codes t g p q tb w' := by
  have HN1 := hidMk (arena_New room w r1 r2)
  have HN2 := hidMk (fun W => r9_New room W r1 r2)
  have HN3 := hidMk (fun p W => pages_New p codes W c1 c2)
  have HLV := hidMk (fun W => r10_Levels codes W c1 c2)
  go_enter Tryd.func16, Tryd.ntmps16
  go_wp2_with fail
  refine HN1.out.mono ?_
  rintro e w1 ⟨rfl, hn1⟩
  have H1 := hidMk hn1
  clear hn1 HN1
  obtain ⟨p, hp⟩ : ∃ p, p = w.heap.size := ⟨_, rfl⟩
  rw [← hp]
  have HP := hidMk hp
  clear hp
  go_wp2_with fail
  refine (HN2.out _).mono ?_
  rintro e w2 ⟨rfl, hr2, hk2⟩
  have H2 := hidMk (And.intro hr2 hk2)
  clear hr2 hk2 HN2
  obtain ⟨q, hq⟩ : ∃ q, q = w1.heap.size + 2 := ⟨_, rfl⟩
  rw [← hq]
  have HQ := hidMk hq
  clear hq
  go_wp2_with fail
  refine (HN3.out _ _).mono ?_
  rintro e w3 ⟨rfl, hg3, hs3, hk3⟩
  have H3 := hidMk (And.intro hg3 (And.intro hs3 hk3))
  clear hg3 hs3 hk3 HN3
  obtain ⟨g, hg⟩ : ∃ g, g = w2.heap.size := ⟨_, rfl⟩
  rw [← hg]
  have HG := hidMk hg
  clear hg
  have HLV3 := hidMk (HLV.out w3)
  generalize hL : lvls codes = L at *
  have HL := hidMk hL
  clear hL HLV
  go_wp2_with fail
  refine HLV3.out.mono ?_
  rintro e w4 ⟨rfl, hw4⟩
  rw [hw4]
  clear hw4 HLV3
  go_wp2_with fail
  go_ret
  obtain ⟨h3a, h3b, h3c⟩ := H3.out
  rw [← HG.out] at h3a h3b
  have hb := ba_new (Kept.refl w) H1.out r1 r2 H2.out.1 H2.out.2
  rw [← HP.out, ← HQ.out] at hb
  obtain ⟨Y1, hY1⟩ : ∃ Y, Y = w3.alloc (.cells #[.int .i64 0, .int .i64 0, .int .i64 1] 49) := ⟨_, rfl⟩
  have hs1 : Y1.heap.size = w3.heap.size + 1 := by rw [hY1]; simp
  have ky1 : Kept w3 Y1 := by rw [hY1]; exact (Kept.refl _).alloc _
  have b1 : Y1.heap[w3.heap.size]? = some (.cells #[.int .i64 0, .int .i64 0, .int .i64 1] 49) := by rw [hY1]; exact World.heap_new _ _
  rw [← hY1, ← hs1]
  obtain ⟨Y2, hY2⟩ : ∃ Y, Y = Y1.alloc (.cells #[.pointer (some ⟨g, 0, none⟩), .pointer (some ⟨q, 0, none⟩), .int .i64 codes, .int .i64 L, .slice (some ⟨w3.heap.size, 0, none⟩) 1 1] 45) := ⟨_, rfl⟩
  have ky2 : Kept Y1 Y2 := by rw [hY2]; exact (Kept.refl _).alloc _
  have hs2 : Y2.heap.size = Y1.heap.size + 1 := by rw [hY2]; simp
  rw [← hY2]
  have b1' : Y2.heap[w3.heap.size]? = some (.cells #[.int .i64 0, .int .i64 0, .int .i64 1] 49) := by rw [ky2.block _ (by omega), b1]
  have rg : Y2.rangeAt Y1.heap.size 0 [.pointer (some ⟨g, 0, none⟩), .pointer (some ⟨q, 0, none⟩), .int .i64 codes, .int .i64 L, .slice (some ⟨w3.heap.size, 0, none⟩) 1 1] := by rw [hY2]; exact new_range Y1 _ _
  have b2 : Y2.heap[Y1.heap.size]? = some (.cells #[.pointer (some ⟨g, 0, none⟩), .pointer (some ⟨q, 0, none⟩), .int .i64 codes, .int .i64 L, .slice (some ⟨w3.heap.size, 0, none⟩) 1 1] 45) := by rw [hY2]; exact World.heap_new _ _
  have kall : Kept w2 Y2 := h3c.trans (ky1.trans ky2)
  have hw2 := hb.kept.size
  have hw3 := h3c.size
  refine ⟨Y1.heap.size, g, p, q, w3.heap.size, rfl, ⟨hb.with kall (fun j hj => .inr ?_), (h3a.kept (ky1.trans ky2)), ?_, ?_, by omega, by omega, by omega⟩⟩
  · have := HG.out
    rcases hj with e | e | e <;> omega
  · rw [← HL.out] at rg
    exact ⟨rg 0 _ rfl, rg 1 _ rfl, rg 2 _ rfl, rg 3 _ rfl, rg 4 _ rfl, fun j => by simp [World.frozen?, b2]⟩
  · exact ⟨rfl, .inr ⟨w3.heap.size, 1, #[.int .i64 0, .int .i64 0, .int .i64 1], rfl, by omega, b1', by omega, by unfold maxLen; omega, rfl, rfl⟩⟩
end Go.Proofs.YtjkbhaplngnniaaDoor
