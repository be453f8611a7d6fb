/- What part reads, of each kind. -/
import Derived.Test.YtopabkkapbaibaaGreatMsgLay
set_option linter.unusedVariables false
namespace Go.Proofs.YtopabkkapbaibaaGreat.Msg
open Go.RowKit
open Go.Proofs.YtopabkkapbaibaaGreat.Addr (Pf okP checkP wideN firstN kP hiN loN adV pfV RowAt below2 below_drew below_new bset RowAt.lt RowAt.cell RowAt.frozen RowAt.below RowAt.drew RowAt.new RowAt.alloc gdrew gset gbelow galloc grefl cells2 cells4 results_cell)

theorem part_no {α : Type} {z : α} {f : List UInt8 → Option (α × List UInt8)} {l : List UInt8} (h : f l = none) : part z f (some l) = (z, none) := by simp only [part, h]
theorem part_yes {α : Type} {z v : α} {f : List UInt8 → Option (α × List UInt8)} {l r : List UInt8} (h : f l = some (v, r)) : part z f (some l) = (v, some r) := by simp only [part, h]
theorem part_ek (g : Nat) (st : Option (List UInt8)) (W : World) (h : Rds W g st) (hl : ∀ l, st = some l → (l.length : Int) ≤ 200000000000000) :
    Calls Tryz.prog 48 #[.pointer (some ⟨g, 0, none⟩), .func (.func 49) #[] #[]] W fun e w' => e = .returned ((fun n : Nat => Value.int .u8 (n : Int)) (part (0 : Nat) f1 st).1) ∧ Rds w' g (part (0 : Nat) f1 st).2 ∧ W.grownBy w' (some g) := by
  cases st with
  | none =>
    obtain ⟨l, h⟩ := h
    obtain ⟨x0, x1, xf⟩ := cells2 h
    have hlt := RowAt.lt h
    go_enter Tryz.func48, Tryz.ntmps48
    go_wp2_with fail
    go_ret
    exact ⟨rfl, ⟨l, h⟩, grefl _ _⟩
  | some l =>
    have h : Rd W g l false := h
    have cr := single_ek g l W h (hl l rfl)
    obtain ⟨x0, x1, xf⟩ := cells2 h
    have hlt := RowAt.lt h
    generalize hS : f1 l = S at cr
    cases S with
    | none =>
      have HR : Hid (part (0 : Nat) f1 (some l) = ((0 : Nat), none)) := part_no hS
      clear hS
      generalize part (0 : Nat) f1 (some l) = R at HR ⊢
      go_enter Tryz.func48, Tryz.ntmps48
      go_wp2_with fail
      go_at_call 49; refine cr.mono ?_; rintro e w1 ⟨v, t, rfl, hr, hg⟩
      clear h x0 x1 xf hlt
      obtain ⟨y0, y1, yf⟩ := cells2 hr
      have hlt := RowAt.lt hr
      have HS : Hid (Rd (w1.setCell ⟨g, 1, none⟩ (.bool true)) g t true) := set1 hr 1 _
      go_wp2_with fail
      go_ret
      exact ⟨by rw [HR.out]; rfl, by rw [HR.out]; exact ⟨t, HS.out⟩, gset hg⟩
    | some p =>
      obtain ⟨v, t⟩ := p
      have HR : Hid (part (0 : Nat) f1 (some l) = (v, some t)) := part_yes hS
      clear hS
      generalize part (0 : Nat) f1 (some l) = R at HR ⊢
      go_enter Tryz.func48, Tryz.ntmps48
      go_wp2_with fail
      go_at_call 49; refine cr.mono ?_; rintro e w1 ⟨rfl, hr, hg⟩
      go_wp2_with fail
      go_ret
      exact ⟨by rw [HR.out]; rfl, by rw [HR.out]; exact hr, hg⟩
theorem part_ak (g : Nat) (st : Option (List UInt8)) (W : World) (h : Rds W g st) (hl : ∀ l, st = some l → (l.length : Int) ≤ 200000000000000) :
    Calls Tryz.prog 81 #[.pointer (some ⟨g, 0, none⟩), .func (.func 82) #[] #[]] W fun e w' => e = .returned ((fun n : Nat => Value.int .u8 (n : Int)) (part (0 : Nat) f1 st).1) ∧ Rds w' g (part (0 : Nat) f1 st).2 ∧ W.grownBy w' (some g) := by
  cases st with
  | none =>
    obtain ⟨l, h⟩ := h
    obtain ⟨x0, x1, xf⟩ := cells2 h
    have hlt := RowAt.lt h
    go_enter Tryz.func81, Tryz.ntmps81
    go_wp2_with fail
    go_ret
    exact ⟨rfl, ⟨l, h⟩, grefl _ _⟩
  | some l =>
    have h : Rd W g l false := h
    have cr := single_ak g l W h (hl l rfl)
    obtain ⟨x0, x1, xf⟩ := cells2 h
    have hlt := RowAt.lt h
    generalize hS : f1 l = S at cr
    cases S with
    | none =>
      have HR : Hid (part (0 : Nat) f1 (some l) = ((0 : Nat), none)) := part_no hS
      clear hS
      generalize part (0 : Nat) f1 (some l) = R at HR ⊢
      go_enter Tryz.func81, Tryz.ntmps81
      go_wp2_with fail
      go_at_call 82; refine cr.mono ?_; rintro e w1 ⟨v, t, rfl, hr, hg⟩
      clear h x0 x1 xf hlt
      obtain ⟨y0, y1, yf⟩ := cells2 hr
      have hlt := RowAt.lt hr
      have HS : Hid (Rd (w1.setCell ⟨g, 1, none⟩ (.bool true)) g t true) := set1 hr 1 _
      go_wp2_with fail
      go_ret
      exact ⟨by rw [HR.out]; rfl, by rw [HR.out]; exact ⟨t, HS.out⟩, gset hg⟩
    | some p =>
      obtain ⟨v, t⟩ := p
      have HR : Hid (part (0 : Nat) f1 (some l) = (v, some t)) := part_yes hS
      clear hS
      generalize part (0 : Nat) f1 (some l) = R at HR ⊢
      go_enter Tryz.func81, Tryz.ntmps81
      go_wp2_with fail
      go_at_call 82; refine cr.mono ?_; rintro e w1 ⟨rfl, hr, hg⟩
      go_wp2_with fail
      go_ret
      exact ⟨by rw [HR.out]; rfl, by rw [HR.out]; exact hr, hg⟩
theorem part_by (g : Nat) (st : Option (List UInt8)) (W : World) (h : Rds W g st) (hl : ∀ l, st = some l → (l.length : Int) ≤ 200000000000000) :
    Calls Tryz.prog 74 #[.pointer (some ⟨g, 0, none⟩), .func (.func 75) #[] #[]] W fun e w' => e = .returned ((fun n : Nat => Value.int .u8 (n : Int)) (part (0 : Nat) f1 st).1) ∧ Rds w' g (part (0 : Nat) f1 st).2 ∧ W.grownBy w' (some g) := by
  cases st with
  | none =>
    obtain ⟨l, h⟩ := h
    obtain ⟨x0, x1, xf⟩ := cells2 h
    have hlt := RowAt.lt h
    go_enter Tryz.func74, Tryz.ntmps74
    go_wp2_with fail
    go_ret
    exact ⟨rfl, ⟨l, h⟩, grefl _ _⟩
  | some l =>
    have h : Rd W g l false := h
    have cr := single_by g l W h (hl l rfl)
    obtain ⟨x0, x1, xf⟩ := cells2 h
    have hlt := RowAt.lt h
    generalize hS : f1 l = S at cr
    cases S with
    | none =>
      have HR : Hid (part (0 : Nat) f1 (some l) = ((0 : Nat), none)) := part_no hS
      clear hS
      generalize part (0 : Nat) f1 (some l) = R at HR ⊢
      go_enter Tryz.func74, Tryz.ntmps74
      go_wp2_with fail
      go_at_call 75; refine cr.mono ?_; rintro e w1 ⟨v, t, rfl, hr, hg⟩
      clear h x0 x1 xf hlt
      obtain ⟨y0, y1, yf⟩ := cells2 hr
      have hlt := RowAt.lt hr
      have HS : Hid (Rd (w1.setCell ⟨g, 1, none⟩ (.bool true)) g t true) := set1 hr 1 _
      go_wp2_with fail
      go_ret
      exact ⟨by rw [HR.out]; rfl, by rw [HR.out]; exact ⟨t, HS.out⟩, gset hg⟩
    | some p =>
      obtain ⟨v, t⟩ := p
      have HR : Hid (part (0 : Nat) f1 (some l) = (v, some t)) := part_yes hS
      clear hS
      generalize part (0 : Nat) f1 (some l) = R at HR ⊢
      go_enter Tryz.func74, Tryz.ntmps74
      go_wp2_with fail
      go_at_call 75; refine cr.mono ?_; rintro e w1 ⟨rfl, hr, hg⟩
      go_wp2_with fail
      go_ret
      exact ⟨by rw [HR.out]; rfl, by rw [HR.out]; exact hr, hg⟩
theorem part_six (g : Nat) (st : Option (List UInt8)) (W : World) (h : Rds W g st) (hl : ∀ l, st = some l → (l.length : Int) ≤ 200000000000000) :
    Calls Tryz.prog 72 #[.pointer (some ⟨g, 0, none⟩), .func (.func 73) #[] #[]] W fun e w' => e = .returned ((fun n : Bool => Value.bool n) (part false fSix st).1) ∧ Rds w' g (part false fSix st).2 ∧ W.grownBy w' (some g) := by
  cases st with
  | none =>
    obtain ⟨l, h⟩ := h
    obtain ⟨x0, x1, xf⟩ := cells2 h
    have hlt := RowAt.lt h
    go_enter Tryz.func72, Tryz.ntmps72
    go_wp2_with fail
    go_ret
    exact ⟨rfl, ⟨l, h⟩, grefl _ _⟩
  | some l =>
    have h : Rd W g l false := h
    have cr := isSix_any g l W h (hl l rfl)
    obtain ⟨x0, x1, xf⟩ := cells2 h
    have hlt := RowAt.lt h
    generalize hS : fSix l = S at cr
    cases S with
    | none =>
      have HR : Hid (part false fSix (some l) = (false, none)) := part_no hS
      clear hS
      generalize part false fSix (some l) = R at HR ⊢
      go_enter Tryz.func72, Tryz.ntmps72
      go_wp2_with fail
      go_at_call 73; refine cr.mono ?_; rintro e w1 ⟨v, t, rfl, hr, hg⟩
      clear h x0 x1 xf hlt
      obtain ⟨y0, y1, yf⟩ := cells2 hr
      have hlt := RowAt.lt hr
      have HS : Hid (Rd (w1.setCell ⟨g, 1, none⟩ (.bool true)) g t true) := set1 hr 1 _
      go_wp2_with fail
      go_ret
      exact ⟨by rw [HR.out]; rfl, by rw [HR.out]; exact ⟨t, HS.out⟩, gset hg⟩
    | some p =>
      obtain ⟨v, t⟩ := p
      have HR : Hid (part false fSix (some l) = (v, some t)) := part_yes hS
      clear hS
      generalize part false fSix (some l) = R at HR ⊢
      go_enter Tryz.func72, Tryz.ntmps72
      go_wp2_with fail
      go_at_call 73; refine cr.mono ?_; rintro e w1 ⟨rfl, hr, hg⟩
      go_wp2_with fail
      go_ret
      exact ⟨by rw [HR.out]; rfl, by rw [HR.out]; exact hr, hg⟩
theorem part_int (g : Nat) (st : Option (List UInt8)) (W : World) (h : Rds W g st) (hl : ∀ l, st = some l → (l.length : Int) ≤ 200000000000000) :
    Calls Tryz.prog 50 #[.pointer (some ⟨g, 0, none⟩), .func (.func 51) #[] #[]] W fun e w' => e = .returned ((fun n : Int => Value.int .i64 n) (part (0 : Int) fI st).1) ∧ Rds w' g (part (0 : Int) fI st).2 ∧ W.grownBy w' (some g) := by
  cases st with
  | none =>
    obtain ⟨l, h⟩ := h
    obtain ⟨x0, x1, xf⟩ := cells2 h
    have hlt := RowAt.lt h
    go_enter Tryz.func50, Tryz.ntmps50
    go_wp2_with fail
    go_ret
    exact ⟨rfl, ⟨l, h⟩, grefl _ _⟩
  | some l =>
    have h : Rd W g l false := h
    have cr := number_int g l W h (hl l rfl)
    obtain ⟨x0, x1, xf⟩ := cells2 h
    have hlt := RowAt.lt h
    generalize hS : fI l = S at cr
    cases S with
    | none =>
      have HR : Hid (part (0 : Int) fI (some l) = ((0 : Int), none)) := part_no hS
      clear hS
      generalize part (0 : Int) fI (some l) = R at HR ⊢
      go_enter Tryz.func50, Tryz.ntmps50
      go_wp2_with fail
      go_at_call 51; refine cr.mono ?_; rintro e w1 ⟨v, t, rfl, hr, hg⟩
      clear h x0 x1 xf hlt
      obtain ⟨y0, y1, yf⟩ := cells2 hr
      have hlt := RowAt.lt hr
      have HS : Hid (Rd (w1.setCell ⟨g, 1, none⟩ (.bool true)) g t true) := set1 hr 1 _
      go_wp2_with fail
      go_ret
      exact ⟨by rw [HR.out]; rfl, by rw [HR.out]; exact ⟨t, HS.out⟩, gset hg⟩
    | some p =>
      obtain ⟨v, t⟩ := p
      have HR : Hid (part (0 : Int) fI (some l) = (v, some t)) := part_yes hS
      clear hS
      generalize part (0 : Int) fI (some l) = R at HR ⊢
      go_enter Tryz.func50, Tryz.ntmps50
      go_wp2_with fail
      go_at_call 51; refine cr.mono ?_; rintro e w1 ⟨rfl, hr, hg⟩
      go_wp2_with fail
      go_ret
      exact ⟨by rw [HR.out]; rfl, by rw [HR.out]; exact hr, hg⟩
theorem part_i64 (g : Nat) (st : Option (List UInt8)) (W : World) (h : Rds W g st) (hl : ∀ l, st = some l → (l.length : Int) ≤ 200000000000000) :
    Calls Tryz.prog 54 #[.pointer (some ⟨g, 0, none⟩), .func (.func 55) #[] #[]] W fun e w' => e = .returned ((fun n : Int => Value.int .i64 n) (part (0 : Int) fI st).1) ∧ Rds w' g (part (0 : Int) fI st).2 ∧ W.grownBy w' (some g) := by
  cases st with
  | none =>
    obtain ⟨l, h⟩ := h
    obtain ⟨x0, x1, xf⟩ := cells2 h
    have hlt := RowAt.lt h
    go_enter Tryz.func54, Tryz.ntmps54
    go_wp2_with fail
    go_ret
    exact ⟨rfl, ⟨l, h⟩, grefl _ _⟩
  | some l =>
    have h : Rd W g l false := h
    have cr := number_i64 g l W h (hl l rfl)
    obtain ⟨x0, x1, xf⟩ := cells2 h
    have hlt := RowAt.lt h
    generalize hS : fI l = S at cr
    cases S with
    | none =>
      have HR : Hid (part (0 : Int) fI (some l) = ((0 : Int), none)) := part_no hS
      clear hS
      generalize part (0 : Int) fI (some l) = R at HR ⊢
      go_enter Tryz.func54, Tryz.ntmps54
      go_wp2_with fail
      go_at_call 55; refine cr.mono ?_; rintro e w1 ⟨v, t, rfl, hr, hg⟩
      clear h x0 x1 xf hlt
      obtain ⟨y0, y1, yf⟩ := cells2 hr
      have hlt := RowAt.lt hr
      have HS : Hid (Rd (w1.setCell ⟨g, 1, none⟩ (.bool true)) g t true) := set1 hr 1 _
      go_wp2_with fail
      go_ret
      exact ⟨by rw [HR.out]; rfl, by rw [HR.out]; exact ⟨t, HS.out⟩, gset hg⟩
    | some p =>
      obtain ⟨v, t⟩ := p
      have HR : Hid (part (0 : Int) fI (some l) = (v, some t)) := part_yes hS
      clear hS
      generalize part (0 : Int) fI (some l) = R at HR ⊢
      go_enter Tryz.func54, Tryz.ntmps54
      go_wp2_with fail
      go_at_call 55; refine cr.mono ?_; rintro e w1 ⟨rfl, hr, hg⟩
      go_wp2_with fail
      go_ret
      exact ⟨by rw [HR.out]; rfl, by rw [HR.out]; exact hr, hg⟩
theorem part_u64 (g : Nat) (st : Option (List UInt8)) (W : World) (h : Rds W g st) (hl : ∀ l, st = some l → (l.length : Int) ≤ 200000000000000) :
    Calls Tryz.prog 52 #[.pointer (some ⟨g, 0, none⟩), .func (.func 53) #[] #[]] W fun e w' => e = .returned ((fun n : Nat => Value.int .u64 (n : Int)) (part (0 : Nat) rdN st).1) ∧ Rds w' g (part (0 : Nat) rdN st).2 ∧ W.grownBy w' (some g) := by
  cases st with
  | none =>
    obtain ⟨l, h⟩ := h
    obtain ⟨x0, x1, xf⟩ := cells2 h
    have hlt := RowAt.lt h
    go_enter Tryz.func52, Tryz.ntmps52
    go_wp2_with fail
    go_ret
    exact ⟨rfl, ⟨l, h⟩, grefl _ _⟩
  | some l =>
    have h : Rd W g l false := h
    have cr := number_u64 g l W h (hl l rfl)
    obtain ⟨x0, x1, xf⟩ := cells2 h
    have hlt := RowAt.lt h
    generalize hS : rdN l = S at cr
    cases S with
    | none =>
      have HR : Hid (part (0 : Nat) rdN (some l) = ((0 : Nat), none)) := part_no hS
      clear hS
      generalize part (0 : Nat) rdN (some l) = R at HR ⊢
      go_enter Tryz.func52, Tryz.ntmps52
      go_wp2_with fail
      go_at_call 53; refine cr.mono ?_; rintro e w1 ⟨v, t, rfl, hr, hg⟩
      clear h x0 x1 xf hlt
      obtain ⟨y0, y1, yf⟩ := cells2 hr
      have hlt := RowAt.lt hr
      have HS : Hid (Rd (w1.setCell ⟨g, 1, none⟩ (.bool true)) g t true) := set1 hr 1 _
      go_wp2_with fail
      go_ret
      exact ⟨by rw [HR.out]; rfl, by rw [HR.out]; exact ⟨t, HS.out⟩, gset hg⟩
    | some p =>
      obtain ⟨v, t⟩ := p
      have HR : Hid (part (0 : Nat) rdN (some l) = (v, some t)) := part_yes hS
      clear hS
      generalize part (0 : Nat) rdN (some l) = R at HR ⊢
      go_enter Tryz.func52, Tryz.ntmps52
      go_wp2_with fail
      go_at_call 53; refine cr.mono ?_; rintro e w1 ⟨rfl, hr, hg⟩
      go_wp2_with fail
      go_ret
      exact ⟨by rw [HR.out]; rfl, by rw [HR.out]; exact hr, hg⟩
end Go.Proofs.YtopabkkapbaibaaGreat.Msg
