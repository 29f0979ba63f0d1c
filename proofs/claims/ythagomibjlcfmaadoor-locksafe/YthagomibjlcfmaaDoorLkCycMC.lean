/-
  The search for a cycle: its mathematics.
-/
import Derived.Test.YthagomibjlcfmaaDoorLkFirstC
namespace Go.Proofs.YthagomibjlcfmaaDoor
open Go.RowKit
set_option linter.unusedVariables false

def Closed (su : Int → List Int) (B : Int → Prop) : Prop := ∀ y, B y → ∀ z ∈ su y, B z

/-- Where each of four has one for whom it waits among the four, one of them waits for itself at last. -/
theorem no_descent (su : Int → List Int) (h4 : ∀ y, 1 ≤ y ∧ y ≤ 4 → su y ≠ [] ∧ ∀ z ∈ su y, 1 ≤ z ∧ z ≤ 4) (hC : ∀ x, 1 ≤ x ∧ x ≤ 4 → ∃ B : Int → Prop, (∀ z ∈ su x, B z) ∧ Closed su B ∧ ¬ B x) : False := by
  have step : ∀ B : Int → Prop, Closed su B → (∀ y, B y → 1 ≤ y ∧ y ≤ 4) → ∀ y, B y → ∃ B' : Int → Prop, Closed su B' ∧ (∀ z, B' z → B z) ∧ (∃ z, B' z) ∧ ¬ B' y := by
    intro B hc hr y hy
    obtain ⟨C, c1, c2, c3⟩ := hC y (hr y hy)
    refine ⟨fun z => B z ∧ C z, fun u hu z hz => ⟨hc u hu.1 z hz, c2 u hu.2 z hz⟩, fun z hz => hz.1, ?_, fun h => c3 h.2⟩
    cases hs : su y with
    | nil => exact absurd hs (h4 y (hr y hy)).1
    | cons z l => exact ⟨z, hc y hy z (by rw [hs]; simp), c1 z (by rw [hs]; simp)⟩
  have r0 : Closed su (fun y => 1 ≤ y ∧ y ≤ 4) := fun y hy z hz => (h4 y hy).2 z hz
  obtain ⟨B1, k1, s1, ⟨y1, e1⟩, n1⟩ := step _ r0 (fun y h => h) 1 ⟨by omega, by omega⟩
  obtain ⟨B2, k2, s2, ⟨y2, e2⟩, n2⟩ := step B1 k1 s1 y1 e1
  have t2 : ∀ z, B2 z → 1 ≤ z ∧ z ≤ 4 := fun z h => s1 z (s2 z h)
  obtain ⟨B3, k3, s3, ⟨y3, e3⟩, n3⟩ := step B2 k2 t2 y2 e2
  have t3 : ∀ z, B3 z → 1 ≤ z ∧ z ≤ 4 := fun z h => t2 z (s3 z h)
  obtain ⟨B4, k4, s4, ⟨y4, e4⟩, n4⟩ := step B3 k3 t3 y3 e3
  have a1 := s1 y1 e1
  have a2 := t2 y2 e2
  have a3 := t3 y3 e3
  have a4 := t3 y4 (s4 y4 e4)
  have d1 : y1 ≠ 1 := fun e => n1 (e ▸ e1)
  have d2 : y2 ≠ 1 := fun e => n1 (e ▸ s2 y2 e2)
  have d3 : y3 ≠ 1 := fun e => n1 (e ▸ s2 y3 (s3 y3 e3))
  have d4 : y4 ≠ 1 := fun e => n1 (e ▸ s2 y4 (s3 y4 (s4 y4 e4)))
  have f2 : y2 ≠ y1 := fun e => n2 (e ▸ e2)
  have f3 : y3 ≠ y1 := fun e => n2 (e ▸ s3 y3 e3)
  have f4 : y4 ≠ y1 := fun e => n2 (e ▸ s3 y4 (s4 y4 e4))
  have g3 : y3 ≠ y2 := fun e => n3 (e ▸ e3)
  have g4 : y4 ≠ y2 := fun e => n3 (e ▸ s4 y4 e4)
  have h5 : y4 ≠ y3 := fun e => n4 (e ▸ e4)
  omega

/-- Where the search stands: the way, and those to which one has been. -/
structure CySt (su : Int → List Int) (x : Int) (way : List Int) (bn : Int → Bool) : Prop where
  nx : bn x = false
  cl : ∀ y, (y = x ∨ bn y = true) → y ∈ way ∨ ∀ z ∈ su y, bn z = true
  way : ∀ y ∈ way, y = x ∨ bn y = true

theorem CySt.start (su : Int → List Int) (x : Int) : CySt su x [x] (fun _ => false) :=
  ⟨rfl, fun y hy => .inl (by rcases hy with rfl | h; simp; cases h), fun y hy => .inl (by simpa using hy)⟩

theorem newF_zero {bn : Int → Bool} {zs : List Int} (h : newF bn zs = 0) (h0 : ∀ z ∈ zs, z ≠ 0) : ∀ z ∈ zs, bn z = true := by
  induction zs with
  | nil => intro z hz; cases hz
  | cons a zs ih =>
    unfold newF at h
    cases hb : bn a with
    | false => rw [hb] at h; exact absurd (by simpa using h) (h0 a (by simp))
    | true =>
      rw [hb, if_pos rfl] at h
      intro z hz
      rcases List.mem_cons.1 hz with rfl | hz
      · exact hb
      · exact ih h (fun z hz => h0 z (by simp [hz])) z hz

theorem newF_mem {bn : Int → Bool} {zs : List Int} (h : newF bn zs ≠ 0) : newF bn zs ∈ zs ∧ bn (newF bn zs) = false := by
  induction zs with
  | nil => exact absurd rfl h
  | cons a zs ih =>
    unfold newF at h ⊢
    cases hb : bn a with
    | false => simp [hb]
    | true =>
      rw [hb, if_pos rfl] at h
      simp only [if_true]
      exact ⟨by simp [(ih h).1], (ih h).2⟩

/-- Nobody new: one goes back. -/
theorem CySt.pop {su : Int → List Int} {x y : Int} {way : List Int} {bn : Int → Bool} (h : CySt su x (way ++ [y]) bn) (h0 : ∀ z ∈ su y, z ≠ 0) (hn : newF bn (su y) = 0) : CySt su x way bn := by
  have hy := newF_zero hn h0
  refine ⟨h.nx, fun u hu => ?_, fun u hu => h.way u (by simp [hu])⟩
  rcases h.cl u hu with a | a
  · rw [List.mem_append] at a
    rcases a with a | a
    · exact .inl a
    · obtain rfl : u = y := by simpa using a
      exact .inr hy
  · exact .inr a

/-- Somebody new: one goes on. -/
theorem CySt.push {su : Int → List Int} {x z : Int} {way : List Int} {bn : Int → Bool} (h : CySt su x way bn) (hz : z ≠ x) : CySt su x (way ++ [z]) (fun u => if u = z then true else bn u) := by
  refine ⟨by rw [if_neg (fun e => hz e.symm)]; exact h.nx, fun u hu => ?_, fun u hu => ?_⟩
  · by_cases e : u = z
    · exact .inl (by simp [e])
    · rcases h.cl u (by rcases hu with a | a; exact .inl a; rw [if_neg e] at a; exact .inr a) with a | a
      · exact .inl (by simp [a])
      · refine .inr fun v hv => ?_
        have := a v hv
        by_cases e2 : v = z
        · simp [e2]
        · simp [e2, this]
  · by_cases e : u = z
    · exact .inr (by simp [e])
    · rw [List.mem_append] at hu
      rcases hu with a | a
      · rcases h.way u a with b | b
        · exact .inl b
        · exact .inr (by simp [e, b])
      · exact absurd (by simpa using a) e

/-- The search ends with nothing: those whom one met have no way back. -/
theorem CySt.end' {su : Int → List Int} {x : Int} {bn : Int → Bool} (h : CySt su x [] bn) : ∃ B : Int → Prop, (∀ z ∈ su x, B z) ∧ Closed su B ∧ ¬ B x := by
  have c : ∀ y, (y = x ∨ bn y = true) → ∀ z ∈ su y, bn z = true := fun y hy => by
    rcases h.cl y hy with a | a
    · cases a
    · exact a
  refine ⟨fun z => bn z = true, c x (.inl rfl), fun y hy z hz => c y (.inr hy) z hz, ?_⟩
  show ¬ bn x = true
  rw [h.nx]
  simp

end Go.Proofs.YthagomibjlcfmaaDoor
