/- What the document's Same returns of rows of pieces that are one; cutters held against each other; the fixed answers. -/
import Derived.KernelRfl
import Derived.Test.YtemefcojmidmbaaProg
import Derived.WalkKit
import Derived.WalkSmall
import Derived.Laws.IdiomStrings
import Derived.Laws.BitsAllLaws
import Derived.Laws.StructEq
import Derived.RegionTactic
import Derived.Deep.RegionWith
import Derived.BigRegion
import Derived.ChangeAlike
import Derived.BigQuiet
import Derived.Deep.QuietTactic
import Derived.OneCell
import Derived.Handy
import Derived.Laws.ResultCell
import Derived.OwnWalk
import Derived.Laws.AppendOwn
import Derived.Deep.Cut
import Derived.Test.YtemefcojmidmbaaShelf
import Derived.Test.YtemefcojmidmbaaRows
import Derived.ProofKit
import Derived.OpenShut
import Derived.SizedLaws
set_option linter.unusedVariables false
namespace Go.Proofs.Ytemefcojmidmbaa.Cut

/-- a cutter, plain -/
structure Ct where
  rest : List UInt8
  bad : Bool
  skip : Int
/-- a piece: its kind, its body -/
abbrev PcT : Type := Nat × List UInt8
def toldN (l : List UInt8) : Nat := 256 * (l.getD 1 0).toNat + (l.getD 2 0).toNat
def fitN (n : Nat) : Bool := decide (1 ≤ n ∧ n ≤ 64)
def mayR (l : List UInt8) : Bool := l.isEmpty || (decide (l.getD 0 0 = 245) && (decide (l.length < 3) || (fitN (toldN l) && decide (l.length < 3 + toldN l))))
def statesC (c : Ct) : Nat := (if c.rest.isEmpty then 0 else 1) + (if c.bad then 1 else 0) + (if 0 < c.skip then 1 else 0)
def okC (c : Ct) : Bool := mayR c.rest && decide (0 ≤ c.skip ∧ c.skip ≤ 65535) && decide (statesC c ≤ 1)
def checkC (c : Ct) : Int := if okC c then 0 else 2
def stepC (c : Ct) (b : UInt8) : Ct × List PcT :=
  if 0 < c.skip then (⟨c.rest, c.bad, c.skip - 1⟩, [])
  else if c.rest.isEmpty then
    if b = 245 then (⟨[b], false, c.skip⟩, [])
    else if c.bad then (c, []) else (⟨c.rest, true, c.skip⟩, [(2, [])])
  else if c.rest.length + 1 < 3 then (⟨c.rest ++ [b], false, c.skip⟩, [])
  else if fitN (toldN (c.rest ++ [b])) = false then (⟨[], false, toldN (c.rest ++ [b])⟩, [(3, [])])
  else if c.rest.length + 1 = 3 + toldN (c.rest ++ [b]) then (⟨[], false, c.skip⟩, [(1, (c.rest ++ [b]).drop 3)])
  else (⟨c.rest ++ [b], false, c.skip⟩, [])
def feedC (c : Ct) : List UInt8 → Ct × List PcT
  | [] => (c, [])
  | b :: t => ((feedC (stepC c b).1 t).1, (stepC c b).2 ++ (feedC (stepC c b).1 t).2)
def wrapL (l : List UInt8) : List UInt8 := [245, 0, UInt8.ofNat l.length] ++ l
def zeroC : Ct := ⟨[], false, 0⟩

theorem feed_app (a b : List UInt8) : ∀ c, feedC c (a ++ b) = ((feedC (feedC c a).1 b).1, (feedC c a).2 ++ (feedC (feedC c a).1 b).2) := by
  induction a with
  | nil => intro c; rfl
  | cons x t ih => intro c; simp only [List.cons_append, feedC]; rw [ih]; simp
theorem feed_one (c : Ct) (b : UInt8) : feedC c [b] = stepC c b := by simp [feedC]
theorem feed_snoc (c : Ct) (l : List UInt8) (b : UInt8) : feedC c (l ++ [b]) = ((stepC (feedC c l).1 b).1, (feedC c l).2 ++ (stepC (feedC c l).1 b).2) := by rw [feed_app, feed_one]
theorem toldN_lt (l : List UInt8) : toldN l ≤ 65535 := by
  unfold toldN
  have h1 := (l.getD 1 0).toNat_lt
  have h2 := (l.getD 2 0).toNat_lt
  omega
theorem mayR_iff (l : List UInt8) : mayR l = true ↔ l = [] ∨ (l.getD 0 0 = 245 ∧ (l.length < 3 ∨ (1 ≤ toldN l ∧ toldN l ≤ 64 ∧ l.length < 3 + toldN l))) := by
  unfold mayR fitN
  simp only [Bool.or_eq_true, Bool.and_eq_true, decide_eq_true_eq, List.isEmpty_iff, and_assoc]
theorem okC_iff (c : Ct) : okC c = true ↔ mayR c.rest = true ∧ (0 ≤ c.skip ∧ c.skip ≤ 65535) ∧ (c.rest ≠ [] → c.bad = false ∧ c.skip = 0) ∧ (c.bad = true → c.skip = 0) := by
  unfold okC statesC
  obtain ⟨r, b, s⟩ := c
  simp only [Bool.and_eq_true, decide_eq_true_eq, List.isEmpty_iff, and_assoc]
  by_cases h : r = [] <;> cases b <;> by_cases hs : 0 < s <;> simp [h, hs] <;> omega
theorem rest_le {c : Ct} (h : okC c = true) : c.rest.length ≤ 66 := by
  have := ((okC_iff c).1 h).1
  rcases (mayR_iff _).1 this with h | ⟨_, h | ⟨_, h1, h2⟩⟩
  · rw [h]; simp
  · omega
  · omega
theorem getD_app (l m : List UInt8) (k : Nat) (h : k < l.length) : (l ++ m).getD k 0 = l.getD k 0 := by
  simp only [List.getD_eq_getElem?_getD, List.getElem?_append_left h]
theorem told_app (l m : List UInt8) (h : 3 ≤ l.length) : toldN (l ++ m) = toldN l := by
  unfold toldN
  rw [getD_app _ _ _ (by omega), getD_app _ _ _ (by omega)]
theorem step_ok {c : Ct} (b : UInt8) (h : okC c = true) : okC (stepC c b).1 = true := by
  obtain ⟨h1, h2, h3, h4⟩ := (okC_iff c).1 h
  have ht := toldN_lt (c.rest ++ [b])
  rw [okC_iff]
  unfold stepC
  split
  · rename_i hs
    refine ⟨h1, ?_, fun hr => ?_, fun hb => ?_⟩
    · simp only; omega
    · have := h3 hr; exact ⟨this.1, by simp only; omega⟩
    · have := h4 hb; simp only; omega
  · rename_i hs
    split
    · rename_i hr
      rw [List.isEmpty_iff] at hr
      split
      · rename_i hb
        subst hb
        exact ⟨(mayR_iff _).2 (.inr ⟨rfl, .inl (by show 1 < 3; omega)⟩), h2, fun _ => ⟨rfl, by simp only; omega⟩, fun hc => by simp at hc⟩
      · split
        · exact ⟨h1, h2, h3, h4⟩
        · exact ⟨h1, h2, fun hc => absurd hr hc, fun _ => by simp only; omega⟩
    · rename_i hr
      rw [List.isEmpty_iff] at hr
      obtain ⟨hb0, hs0⟩ := h3 hr
      have hg : (c.rest ++ [b]).getD 0 0 = 245 := by
        rw [getD_app _ _ _ (by cases hc : c.rest; exact absurd hc hr; simp)]
        rcases (mayR_iff _).1 h1 with h | ⟨h, _⟩
        · exact absurd h hr
        · exact h
      split
      · rename_i hl
        exact ⟨(mayR_iff _).2 (.inr ⟨hg, .inl (by simp; omega)⟩), h2, fun _ => ⟨rfl, hs0⟩, fun hc => by simp at hc⟩
      · rename_i hl
        split
        · exact ⟨(mayR_iff _).2 (.inl rfl), by simp only; omega, fun hc => absurd rfl hc, fun hc => by simp at hc⟩
        · rename_i hf
          have hf' : 1 ≤ toldN (c.rest ++ [b]) ∧ toldN (c.rest ++ [b]) ≤ 64 := by unfold fitN at hf; simpa using hf
          split
          · exact ⟨(mayR_iff _).2 (.inl rfl), h2, fun hc => absurd rfl hc, fun hc => by simp at hc⟩
          · rename_i hne
            refine ⟨(mayR_iff _).2 (.inr ⟨hg, .inr ⟨hf'.1, hf'.2, ?_⟩⟩), h2, fun _ => ⟨rfl, hs0⟩, fun hc => by simp at hc⟩
            show (c.rest ++ [b]).length < 3 + toldN (c.rest ++ [b])
            rw [List.length_append, List.length_singleton]
            by_cases h3l : 3 ≤ c.rest.length
            · rw [told_app _ _ h3l] at hne ⊢
              rcases (mayR_iff _).1 h1 with h | ⟨_, h | ⟨_, _, h⟩⟩
              · exact absurd h hr
              · omega
              · omega
            · omega
theorem feed_ok (l : List UInt8) : ∀ {c : Ct}, okC c = true → okC (feedC c l).1 = true := by
  induction l with
  | nil => intro c h; exact h
  | cons b t ih => intro c h; exact ih (step_ok b h)
theorem step_len (c : Ct) (b : UInt8) : (stepC c b).2.length ≤ 1 := by
  unfold stepC
  repeat' split
  all_goals simp
theorem feed_len (l : List UInt8) : ∀ c, (feedC c l).2.length ≤ l.length := by
  induction l with
  | nil => intro c; simp [feedC]
  | cons b t ih => intro c; have h1 := step_len c b; have h2 := ih (stepC c b).1; simp only [feedC, List.length_append, List.length_cons]; omega
/-- what a piece may be -/
def PcOk (p : PcT) : Prop := (p.1 = 1 ∧ 1 ≤ p.2.length ∧ p.2.length ≤ 64) ∨ ((p.1 = 2 ∨ p.1 = 3) ∧ p.2 = [])
theorem step_pcs (c : Ct) (b : UInt8) : ∀ p ∈ (stepC c b).2, PcOk p := by
  unfold stepC
  split
  · simp
  · split
    · split
      · simp
      · split
        · simp
        · simp [PcOk]
    · split
      · simp
      · split
        · simp [PcOk]
        · rename_i hf
          have hf' : 1 ≤ toldN (c.rest ++ [b]) ∧ toldN (c.rest ++ [b]) ≤ 64 := by unfold fitN at hf; simpa using hf
          split
          · rename_i he
            intro p hp
            simp only [List.mem_singleton] at hp
            subst hp
            refine .inl ⟨rfl, ?_, ?_⟩ <;> simp only [List.length_drop, List.length_append, List.length_singleton] <;> omega
          · simp
theorem feed_pcs (l : List UInt8) : ∀ c, ∀ p ∈ (feedC c l).2, PcOk p := by
  induction l with
  | nil => intro c p hp; simp [feedC] at hp
  | cons b t ih =>
    intro c p hp
    simp only [feedC, List.mem_append] at hp
    rcases hp with hp | hp
    · exact step_pcs c b p hp
    · exact ih _ p hp
theorem wrap_len (l : List UInt8) : (wrapL l).length = 3 + l.length := by simp [wrapL]; omega
theorem told_head (n : Nat) (hn : n < 256) (l : List UInt8) : toldN ([245, 0, UInt8.ofNat n] ++ l) = n := by
  show 256 * 0 + (UInt8.ofNat n).toNat = n
  rw [UInt8.toNat_ofNat_of_lt' hn]; omega
/-- a message that is begun goes on, up to its last byte -/
theorem feed_body (n : Nat) (h1 : 1 ≤ n) (h2 : n ≤ 64) : ∀ (t s : List UInt8), s.length + t.length = n → t ≠ [] → feedC ⟨[245, 0, UInt8.ofNat n] ++ s, false, 0⟩ t = (zeroC, [(1, s ++ t)]) := by
  intro t
  induction t with
  | nil => intro s _ h; exact absurd rfl h
  | cons b u ih =>
    intro s hl _
    have ht := told_head n (by omega) (s ++ [b])
    rw [← List.append_assoc] at ht
    have hstep : stepC ⟨[245, 0, UInt8.ofNat n] ++ s, false, 0⟩ b = if u = [] then (zeroC, [(1, s ++ [b])]) else (⟨[245, 0, UInt8.ofNat n] ++ (s ++ [b]), false, 0⟩, []) := by
      unfold stepC
      simp only [Int.lt_irrefl, if_false]
      rw [if_neg (by simp), if_neg (by simp), ht, if_neg (by unfold fitN; simp; omega)]
      simp only [List.length_cons] at hl
      by_cases hu : u = []
      · subst hu
        rw [if_pos (by simp at hl ⊢; omega), if_pos rfl]
        rfl
      · have : 0 < u.length := List.length_pos_iff.2 hu
        rw [if_neg (by simp at hl ⊢; omega), if_neg hu, List.append_assoc]
    simp only [feedC]
    rw [hstep]
    by_cases hu : u = []
    · subst hu
      rfl
    · rw [if_neg hu]
      simp only [List.nil_append]
      rw [ih (s ++ [b]) (by simp at hl ⊢; omega) hu]
      simp
theorem feed_wrap (l : List UInt8) (h1 : 1 ≤ l.length) (h2 : l.length ≤ 64) (c : Ct) (hr : c.rest = []) (hs : c.skip = 0) : feedC c (wrapL l) = (zeroC, [(1, l)]) := by
  obtain ⟨r, bd, sk⟩ := c
  simp only at hr hs
  subst hr hs
  have hne : l ≠ [] := by intro h; rw [h] at h1; simp at h1
  have hb := feed_body l.length h1 h2 l [] (by simp) hne
  rw [List.append_nil, List.nil_append] at hb
  have e3 : toldN ([245, 0] ++ [UInt8.ofNat l.length]) = l.length := told_head l.length (by omega) []
  have s1 : stepC ⟨[], bd, 0⟩ 245 = (⟨[245], false, 0⟩, []) := rfl
  have s2 : stepC ⟨[245], false, 0⟩ 0 = (⟨[245, 0], false, 0⟩, []) := rfl
  have s3 : stepC ⟨[245, 0], false, 0⟩ (UInt8.ofNat l.length) = (⟨[245, 0, UInt8.ofNat l.length], false, 0⟩, []) := by
    unfold stepC
    simp only [Int.lt_irrefl, if_false]
    rw [if_neg (by simp), if_neg (by simp), e3, if_neg (by unfold fitN; simp; omega), if_neg (by simp; omega)]
    rfl
  show feedC _ (245 :: 0 :: UInt8.ofNat l.length :: l) = _
  simp only [feedC, s1, s2, s3, hb, List.nil_append]
def wrapsL (zs : List (List UInt8)) : List UInt8 := zs.flatMap wrapL
theorem feed_wraps (zs : List (List UInt8)) (hz : ∀ z ∈ zs, 1 ≤ z.length ∧ z.length ≤ 64) : ∀ (c : Ct), c.rest = [] → c.skip = 0 → (feedC c (wrapsL zs)).2 = zs.map (fun z => (1, z)) ∧ (feedC c (wrapsL zs)).1 = if zs = [] then c else zeroC := by
  induction zs with
  | nil => intro c _ _; exact ⟨rfl, rfl⟩
  | cons z zs ih =>
    intro c hr hs
    have hz1 := hz z (by simp)
    have hw := feed_wrap z hz1.1 hz1.2 c hr hs
    have := ih (fun y hy => hz y (by simp [hy])) zeroC rfl rfl
    have e : wrapsL (z :: zs) = wrapL z ++ wrapsL zs := rfl
    rw [e, feed_app, hw]
    refine ⟨by simp [this.1], ?_⟩
    rw [if_neg (by simp)]
    show (feedC zeroC (wrapsL zs)).1 = _
    rw [this.2]
    split <;> rfl
end Go.Proofs.Ytemefcojmidmbaa.Cut
namespace Go.Proofs.Ytemefcojmidmbaa.Cut
open Go.RowKit

theorem below2 {a b c : World} (h1 : Below a.heap.size a b) (h2 : Below b.heap.size b c) : Below a.heap.size a c := h1.trans (h2.mono h1.size)
theorem below_drew {B : Nat} {w0 w : World} (h : Below B w0 w) : Below B w0 w.drew := h.trans ⟨rfl, rfl, rfl, Nat.le_refl _, fun _ _ => rfl⟩
theorem below_new {w0 w : World} (h : Below w0.heap.size w0 w) (o : Obj) : Below w0.heap.size w0 (w.alloc o) := h.alloc h.size _
theorem bset {B b k : Nat} {w0 w : World} {v : Value} (h : Below B w0 w) (hB : B ≤ b) : Below B w0 (w.setCell ⟨b, k, none⟩ v) := h.setCell (p := ⟨b, k, none⟩) hB v
def RowAt (W : World) (g : Nat) (cs : List Value) (t : TypeId) : Prop := W.heap[g]? = some (.cells cs.toArray t (0, 0))
theorem RowAt.lt {W : World} {g : Nat} {cs : List Value} {t : TypeId} (h : RowAt W g cs t) : g < W.heap.size := (Array.getElem?_eq_some_iff.1 h).1
theorem RowAt.cell {W : World} {g : Nat} {cs : List Value} {t : TypeId} (h : RowAt W g cs t) (k : Nat) : W.cell? ⟨g, k, none⟩ = cs[k]? := by
  unfold RowAt at h; simp [World.cell?, h]
theorem RowAt.frozen {W : World} {g : Nat} {cs : List Value} {t : TypeId} (h : RowAt W g cs t) (k : Nat) : W.frozen? ⟨g, k, none⟩ = false := by
  unfold RowAt at h; simp [World.frozen?, h]
theorem RowAt.below {W W' : World} {g : Nat} {cs : List Value} {t : TypeId} (h : RowAt W g cs t) (hb : Below W.heap.size W W') : RowAt W' g cs t := (hb.block g h.lt).trans h
theorem RowAt.drew {W : World} {g : Nat} {cs : List Value} {t : TypeId} (h : RowAt W g cs t) : RowAt W.drew g cs t := h
theorem RowAt.new (W : World) (cs : List Value) (t : TypeId) : RowAt (W.alloc (.cells cs.toArray t)) W.heap.size cs t := by unfold RowAt; simp only [World.alloc, Array.getElem?_push_size]
theorem RowAt.alloc {W : World} {g : Nat} {cs : List Value} {t : TypeId} (h : RowAt W g cs t) (o : Obj) : RowAt (W.alloc o) g cs t := h.below ((Below.refl _ W).alloc (Nat.le_refl _) _)
theorem RowAt.set1 {W : World} {g : Nat} {cs : List Value} {t : TypeId} (h : RowAt W g cs t) (k : Nat) (v : Value) : RowAt (W.setCell ⟨g, k, none⟩ v) g (cs.set k v) t := by
  unfold RowAt at h ⊢
  simp [World.setCell, Array.getElem?_modify, h]
theorem cells3 {W : World} {b : Nat} {x y z : Value} {t : TypeId} (h : RowAt W b [x, y, z] t) : W.cell? ⟨b, 0, none⟩ = some x ∧ W.cell? ⟨b, 1, none⟩ = some y ∧ W.cell? ⟨b, 2, none⟩ = some z ∧ ∀ k, W.frozen? ⟨b, k, none⟩ = false := ⟨h.cell 0, h.cell 1, h.cell 2, h.frozen⟩
theorem cells4 {W : World} {b : Nat} {x y z u : Value} {t : TypeId} (h : RowAt W b [x, y, z, u] t) : W.cell? ⟨b, 0, none⟩ = some x ∧ W.cell? ⟨b, 1, none⟩ = some y ∧ W.cell? ⟨b, 2, none⟩ = some z ∧ W.cell? ⟨b, 3, none⟩ = some u ∧ ∀ k, W.frozen? ⟨b, k, none⟩ = false := ⟨h.cell 0, h.cell 1, h.cell 2, h.cell 3, h.frozen⟩
def strV (p : List UInt8) : Value := .string ⟨p.toArray⟩
theorem str_list (s : ByteArray) : ∃ l : List UInt8, s = ⟨l.toArray⟩ ∧ l.length = s.size := ⟨s.data.toList, by cases s; simp, by simp⟩
theorem size_list (l : List UInt8) : (⟨l.toArray⟩ : ByteArray).size = l.length := by show l.toArray.size = _; simp

theorem byte_at (l : List UInt8) (k : Nat) (h : k < (⟨l.toArray⟩ : ByteArray).size) : (⟨l.toArray⟩ : ByteArray)[k] = l.getD k 0 := by
  have h2 : k < l.length := by rw [size_list] at h; exact h
  rw [List.getD_eq_getElem?_getD, List.getElem?_eq_getElem h2]
  rfl
theorem isFit_any (n : Nat) (w : World) (h : (n : Int) ≤ 9223372036854775807) : Calls Try.prog 19 #[.int .i64 (n : Int)] w fun e w' => e = .returned (.bool (fitN n)) ∧ w' = w := by
  have HF : Hid (fitN n = decide (1 ≤ n ∧ n ≤ 64)) := rfl
  generalize fitN n = R at HF ⊢
  by_cases h1 : 1 ≤ n
  · have d1 : decide (1 ≤ (n : Int)) = true := by rw [decide_eq_true_iff]; omega
    have HV : Hid (R = decide ((n : Int) ≤ 64)) := by show _ = _; rw [HF.out]; exact decide_eq_decide.2 (by omega)
    clear HF
    go_enter Try.func19, Try.ntmps19
    go_wp2
    go_ret
    exact ⟨by rw [HV.out]; rfl, rfl⟩
  · have d1 : decide (1 ≤ (n : Int)) = false := by rw [decide_eq_false_iff_not]; omega
    have HV : Hid (R = false) := by show _ = _; rw [HF.out, decide_eq_false_iff_not]; omega
    clear HF
    go_enter Try.func19, Try.ntmps19
    go_wp2
    go_ret
    exact ⟨by rw [HV.out]; rfl, rfl⟩
theorem shl_or (a b : Nat) (ha : a < 256) (hb : b < 256) : bits .or .i64 (a * 256 : Int) (b : Int) = ((256 * a + b : Nat) : Int) := by
  have e1 : (a : Int) * 256 = ((a * 256 : Nat) : Int) := by omega
  have hx : a * 256 ||| b = 256 * a + b := by
    have := Nat.shiftLeft_add_eq_or_of_lt (b := b) (i := 8) (by omega) a
    rw [Nat.shiftLeft_eq] at this
    rw [← this]; omega
  rw [e1]
  show IntKind.i64.wrap ((BitVec.ofInt 64 ((a * 256 : Nat) : Int) ||| BitVec.ofInt 64 (b : Int)).toNat : Int) = _
  rw [BitVec.toNat_or, ofInt_u64 _ (by omega), ofInt_u64 b (by omega), hx]
  simp [IntKind.wrap, IntKind.bits, IntKind.signed]
  omega
theorem toldBy_any (l : List UInt8) (w : World) (h3 : 3 ≤ l.length) (h : (l.length : Int) ≤ 9223372036854775807) : Calls Try.prog 77 #[.string ⟨l.toArray⟩] w fun e w' => e = .returned (.int .i64 (toldN l : Int)) ∧ Below w.heap.size w w' := by
  have hs := size_list l
  have HT : Hid (toldN l = 256 * (l.getD 1 0).toNat + (l.getD 2 0).toNat) := rfl
  have i1 : 1 < l.length := by omega
  have i2 : 2 < l.length := by omega
  have i1' : (1 : Int) < (l.length : Int) := by omega
  have i2' : (2 : Int) < (l.length : Int) := by omega
  have e1 := byte_at l 1 (by rw [hs]; omega)
  have e2 := byte_at l 2 (by rw [hs]; omega)
  have b1 := (l.getD 1 0).toNat_lt
  have b2 := (l.getD 2 0).toNat_lt
  generalize toldN l = R at HT ⊢
  generalize l.getD 1 0 = x at *
  generalize l.getD 2 0 = y at *
  go_enter Try.func77, Try.ntmps77
  go_wp2
  go_region
  go_wp2
  go_ret
  exact ⟨by rw [HT.out, ← shl_or _ _ b1 b2]; rfl, (Below.refl _ w).trans ⟨rfl, rfl, rfl, Nat.le_refl _, fun _ _ => rfl⟩⟩
theorem mayR_nil : mayR [] = true := rfl
theorem mayR_cons (b : UInt8) (t : List UInt8) : mayR (b :: t) = (decide (b = 245) && (decide ((b :: t).length < 3) || (fitN (toldN (b :: t)) && decide ((b :: t).length < 3 + toldN (b :: t))))) := rfl
theorem byte_ne (x : UInt8) (h : x ≠ 245) : ((x.toNat : Int) != 245) = true := by
  have : x.toNat ≠ 245 := fun e => h (UInt8.toNat_inj.1 e)
  simp; omega
set_option maxHeartbeats 1000000 in
theorem mayRest_any (l : List UInt8) (w : World) (h : (l.length : Int) ≤ 281474976710656) : Calls Try.prog 42 #[.string ⟨l.toArray⟩] w fun e w' => e = .returned (.bool (mayR l)) ∧ Below w.heap.size w w' := by
  cases l with
  | nil =>
    go_enter Try.func42, Try.ntmps42
    go_wp2
    go_ret
    exact ⟨rfl, Below.refl _ _⟩
  | cons b t =>
    have HM := mayR_cons b t
    obtain ⟨l, hl⟩ : ∃ l, l = b :: t := ⟨_, rfl⟩
    rw [← hl] at HM h ⊢
    have h0 : 0 < l.length := by rw [hl]; simp
    have hg0 : l.getD 0 0 = b := by rw [hl]; rfl
    have e0 := byte_at l 0 (by rw [size_list]; exact h0)
    rw [hg0] at e0
    have hne : l.isEmpty = false := by rw [hl]; rfl
    have h0i : (0 : Int) < (l.length : Int) := by omega
    clear hl hg0
    by_cases hb : b = 245
    · have HB : Hid (mayR l = (decide (l.length < 3) || (fitN (toldN l) && decide (l.length < 3 + toldN l)))) := by show _ = _; rw [HM, hb]; rfl
      have hq : ((b.toNat : Int) != 245) = false := by rw [hb]; rfl
      generalize mayR l = R at *
      clear HM
      by_cases h3 : l.length < 3
      · have d3 : decide ((l.length : Int) < 3) = true := by rw [decide_eq_true_iff]; omega
        have d3' : decide (l.length < 3) = true := by rw [decide_eq_true_iff]; omega
        have HV : Hid (R = true) := by show _ = _; rw [HB.out, d3']; rfl
        clear HB hb
        go_enter Try.func42, Try.ntmps42
        go_wp2
        go_ret
        exact ⟨by rw [HV.out]; rfl, Below.refl _ _⟩
      · have d3 : decide ((l.length : Int) < 3) = false := by rw [decide_eq_false_iff_not]; omega
        have d3' : decide (l.length < 3) = false := by rw [decide_eq_false_iff_not]; omega
        have ct := fun W => toldBy_any l W (by omega) (by omega)
        have htl := toldN_lt l
        have cf := fun W => isFit_any (toldN l) W (by omega)
        have HV : Hid (R = (fitN (toldN l) && decide ((l.length : Int) < 3 + (toldN l : Int)))) := by
          show _ = _; rw [HB.out, d3', Bool.false_or, show decide (l.length < 3 + toldN l) = decide ((l.length : Int) < 3 + (toldN l : Int)) from decide_eq_decide.2 (by omega)]
        clear HB hb
        generalize toldN l = T at *
        have hTi : (T : Int) ≤ 65535 := by omega
        generalize fitN T = B at *
        cases B
        · go_enter Try.func42, Try.ntmps42
          go_wp2_with fail
          go_at_call 77; refine (ct _).mono ?_; rintro e w1 ⟨rfl, hb1⟩
          go_wp2_with fail
          go_at_call 19; refine (cf _).mono ?_; rintro e w2 ⟨rfl, rfl⟩
          go_wp2_with fail
          go_ret
          exact ⟨by rw [HV.out]; rfl, hb1⟩
        · go_enter Try.func42, Try.ntmps42
          go_wp2_with fail
          go_at_call 77; refine (ct _).mono ?_; rintro e w1 ⟨rfl, hb1⟩
          go_wp2_with fail
          go_at_call 19; refine (cf _).mono ?_; rintro e w2 ⟨rfl, rfl⟩
          go_wp2_with fail
          go_at_call 77; refine (ct _).mono ?_; rintro e w3 ⟨rfl, hb3⟩
          go_wp2_with fail
          go_ret
          exact ⟨by rw [HV.out]; rfl, below2 hb1 hb3⟩
    · have HV : Hid (mayR l = false) := by show _ = _; rw [HM, decide_eq_false hb]; rfl
      have hq := byte_ne b hb
      generalize mayR l = R at *
      clear HM hb
      go_enter Try.func42, Try.ntmps42
      go_wp2
      go_ret
      exact ⟨by rw [HV.out]; rfl, Below.refl _ _⟩
end Go.Proofs.Ytemefcojmidmbaa.Cut
namespace Go.Proofs.Ytemefcojmidmbaa.Cut
open Go.RowKit

/-- a cutter as a value -/
def ctV (c : Ct) : Value := .agg #[strV c.rest, .bool c.bad, .int .i64 c.skip]
def FitC (c : Ct) : Prop := (c.rest.length : Int) ≤ 140737488351232 ∧ -9223372036854775808 ≤ c.skip ∧ c.skip ≤ 9223372036854775807
theorem index3 (x y z : Bool) (w : World) : (Instr.index 144 (.agg #[.bool x, .bool y, .bool z]) (.int .i64 0)).run Try.prog w = .ok (.bool x) w ∧ (Instr.index 144 (.agg #[.bool x, .bool y, .bool z]) (.int .i64 1)).run Try.prog w = .ok (.bool y) w ∧ (Instr.index 144 (.agg #[.bool x, .bool y, .bool z]) (.int .i64 2)).run Try.prog w = .ok (.bool z) w := by
  have h := Try.underlying144
  refine ⟨?_, ?_, ?_⟩
  all_goals
    simp [Instr.index, run_underlying h, asIntOf, go_sem]
    try rfl
theorem states_any (c : Ct) (w : World) : Calls Try.prog 43 #[ctV c] w fun e w' => e = .returned (.int .i64 (statesC c : Int)) ∧ Below w.heap.size w w' := by
  obtain ⟨r, b, s⟩ := c
  have HS : Hid (statesC ⟨r, b, s⟩ = (if r.isEmpty then 0 else 1) + (if b then 1 else 0) + (if 0 < s then 1 else 0)) := rfl
  generalize statesC ⟨r, b, s⟩ = R at HS ⊢
  unfold ctV strV
  simp only
  have hix := fun x y z W => (index3 x y z W).1
  have hiy := fun x y z W => (index3 x y z W).2.1
  have hiz := fun x y z W => (index3 x y z W).2.2
  have hB := below_new (Below.refl _ w) (.cells #[.string ⟨r.toArray⟩, .bool b, .int .i64 s] 41)
  cases hr : r.isEmpty <;> cases b <;> by_cases hs : 0 < s
  all_goals
    have HR := HS.out
    rw [hr] at HR
    simp only [hs, if_true, if_false, Bool.false_eq_true] at HR
    clear HS
    subst HR
    go_enter Try.func43, Try.ntmps43
    go_wp2
    refine wp_loop_rounds 4 ?_
    repeat any_goals (rw [rounds_succ]; go_wp2_with fail)
    go_ret
    exact ⟨rfl, hB⟩
set_option maxHeartbeats 1000000 in
theorem check_any (c : Ct) (w : World) (hf : FitC c) : Calls Try.prog 20 #[ctV c] w fun e w' => e = .returned (.int .i64 (checkC c)) ∧ Below w.heap.size w w' := by
  have cm := fun W => mayRest_any c.rest W (by have := hf.1; omega)
  have cs := fun W => states_any c W
  have HC : Hid (checkC c = if mayR c.rest && decide (0 ≤ c.skip ∧ c.skip ≤ 65535) && decide (statesC c ≤ 1) then 0 else 2) := rfl
  have hf2 := hf.2
  clear hf
  generalize checkC c = R at HC ⊢
  have hst : statesC c ≤ 3 := by unfold statesC; repeat' split
                                 all_goals omega
  generalize statesC c = S at *
  generalize mayR c.rest = M at *
  obtain ⟨r, b, s⟩ := c
  unfold ctV strV at *
  simp only at *
  generalize (⟨r.toArray⟩ : ByteArray) = z at *
  obtain ⟨X, hX⟩ : ∃ X, X = w.alloc (.cells #[.string z, .bool b, .int .i64 s] 41) := ⟨_, rfl⟩
  have hB0 : Below w.heap.size w X := by rw [hX]; exact below_new (Below.refl _ _) _
  have r0 : RowAt X w.heap.size [.string z, .bool b, .int .i64 s] 41 := by rw [hX]; exact RowAt.new _ _ _
  obtain ⟨x0, x1, x2, xf⟩ := cells3 r0
  have hSi : (S : Int) ≤ 3 := by omega
  cases M
  · have HV : Hid (R = 2) := by show _ = _; rw [HC.out]; rfl
    clear HC
    go_enter Try.func20, Try.ntmps20
    go_wp2_with fail
    rw [← hX]
    clear hX
    go_wp2_with fail
    go_at_call 42; refine (cm _).mono ?_; rintro e w1 ⟨rfl, hb1⟩
    go_wp2_with fail
    go_ret
    exact ⟨by rw [HV.out]; rfl, below2 hB0 hb1⟩
  · by_cases h0 : s < 0
    · have HV : Hid (R = 2) := by show _ = _; rw [HC.out, decide_eq_false (by omega)]; rfl
      have d0 : decide (s < 0) = true := decide_eq_true h0
      clear HC
      go_enter Try.func20, Try.ntmps20
      go_wp2_with fail
      rw [← hX]
      clear hX
      go_wp2_with fail
      go_at_call 42; refine (cm _).mono ?_; rintro e w1 ⟨rfl, hb1⟩
      obtain ⟨y0, y1, y2, yf⟩ := cells3 (r0.below hb1)
      go_wp2_with fail
      go_ret
      exact ⟨by rw [HV.out]; rfl, below2 hB0 hb1⟩
    · by_cases h1 : 65535 < s
      · have HV : Hid (R = 2) := by show _ = _; rw [HC.out, decide_eq_false (by omega)]; rfl
        have d0 : decide (s < 0) = false := decide_eq_false h0
        have d1 : decide (65535 < s) = true := decide_eq_true h1
        clear HC
        go_enter Try.func20, Try.ntmps20
        go_wp2_with fail
        rw [← hX]
        clear hX
        go_wp2_with fail
        go_at_call 42; refine (cm _).mono ?_; rintro e w1 ⟨rfl, hb1⟩
        obtain ⟨y0, y1, y2, yf⟩ := cells3 (r0.below hb1)
        go_wp2_with fail
        go_ret
        exact ⟨by rw [HV.out]; rfl, below2 hB0 hb1⟩
      · have HV : Hid (R = if decide (S ≤ 1) then 0 else 2) := by show _ = _; rw [HC.out, decide_eq_true (by omega)]; rfl
        have d0 : decide (s < 0) = false := decide_eq_false h0
        have d1 : decide (65535 < s) = false := decide_eq_false h1
        clear HC
        by_cases hS : 1 < S
        · have HW : Hid (R = 2) := by show _ = _; rw [HV.out, decide_eq_false (by omega)]; rfl
          have d2 : decide (1 < (S : Int)) = true := decide_eq_true (by omega)
          have d2' : decide (1 < S) = true := decide_eq_true (by omega)
          clear HV
          go_enter Try.func20, Try.ntmps20
          go_wp2_with fail
          rw [← hX]
          clear hX
          go_wp2_with fail
          go_at_call 42; refine (cm _).mono ?_; rintro e w1 ⟨rfl, hb1⟩
          obtain ⟨y0, y1, y2, yf⟩ := cells3 (r0.below hb1)
          have hb01 := below2 hB0 hb1
          clear hb1 hB0
          go_wp2_with fail
          go_at_call 43; refine (cs _).mono ?_; rintro e w2 ⟨rfl, hb2⟩
          go_wp2_with fail
          go_ret
          exact ⟨by rw [HW.out]; rfl, below2 hb01 hb2⟩
        · have HW : Hid (R = 0) := by show _ = _; rw [HV.out, decide_eq_true (by omega)]; rfl
          have d2 : decide (1 < (S : Int)) = false := decide_eq_false (by omega)
          have d2' : decide (1 < S) = false := decide_eq_false (by omega)
          clear HV
          go_enter Try.func20, Try.ntmps20
          go_wp2_with fail
          rw [← hX]
          clear hX
          go_wp2_with fail
          go_at_call 42; refine (cm _).mono ?_; rintro e w1 ⟨rfl, hb1⟩
          obtain ⟨y0, y1, y2, yf⟩ := cells3 (r0.below hb1)
          have hb01 := below2 hB0 hb1
          clear hb1 hB0
          go_wp2_with fail
          go_at_call 43; refine (cs _).mono ?_; rintro e w2 ⟨rfl, hb2⟩
          go_wp2_with fail
          go_ret
          exact ⟨by rw [HW.out]; rfl, below2 hb01 hb2⟩
end Go.Proofs.Ytemefcojmidmbaa.Cut
namespace Go.Proofs.Ytemefcojmidmbaa.Cut
open Go.RowKit
attribute [-go_sem] Builtin.append_

theorem addr_add (b o j : Nat) : (⟨b, o, none⟩ : Addr).add j = ⟨b, o + j, none⟩ := by unfold Addr.add; split <;> simp_all
def pcC (p : PcT) : List Value := [.int .u8 (p.1 : Int), strV p.2]
def pcCs (ps : List PcT) : List Value := ps.flatMap pcC
theorem pcCs_app (a b : List PcT) : pcCs (a ++ b) = pcCs a ++ pcCs b := by simp [pcCs]
theorem pcCs_len (ps : List PcT) : (pcCs ps).length = ps.length * 2 := by
  induction ps with
  | nil => rfl
  | cons p ps ih => simp only [pcCs, List.flatMap_cons, List.length_append, List.length_cons] at ih ⊢; rw [ih]; simp [pcC]; omega
theorem info_pc : (Try.prog.info? 47).map (fun i => (i.zero, i.size, i.bytes)) = some (some (.agg #[.int .u8 0, .string ⟨#[]⟩]), 2, 24) := by kernel_rfl
theorem info_parts {e sz by' : Nat} {z : Value} (h : (Try.prog.info? e).map (fun i => (i.zero, i.size, i.bytes)) = some (some z, sz, by')) : ∃ i, Try.prog.info? e = some i ∧ i.zero = some z ∧ i.size = sz ∧ i.bytes = by' := by
  cases hi : Try.prog.info? e with
  | none => rw [hi] at h; cases h
  | some i =>
    rw [hi] at h
    simp only [Option.map_some, Option.some.injEq, Prod.mk.injEq] at h
    exact ⟨i, rfl, h.1, h.2.1, h.2.2⟩
theorem append_pc {W : World} {n₀ k : Nat} {v : Value} {xs : List Value} (p : PcT) (hown : W.ownsRow n₀ 47 2 v k xs) (hk : k ≤ 4398046511104) (hn : n₀ ≤ W.heap.size) :
    ∃ g cap w3, (∀ ty, (Builtin.append_ #[42, 42] ty #[v, .slice (some ⟨W.heap.size, 0, none⟩) 1 1]).run Try.prog (W.alloc (.cells #[.int .u8 (p.1 : Int), .string ⟨p.2.toArray⟩] 47)) = .ok (.slice (some ⟨g, 0, none⟩) (k + 1) cap) w3) ∧
      w3.ownsRow n₀ 47 2 (.slice (some ⟨g, 0, none⟩) (k + 1) cap) (k + 1) (xs ++ pcC p) ∧ (W.alloc (.cells #[.int .u8 (p.1 : Int), .string ⟨p.2.toArray⟩] 47)).grownBy w3 v.ownBlock := by
  obtain ⟨i0, hi, hz0, hz1, hz2⟩ := info_parts info_pc
  have hrow := RowAt.new W (pcC p) 47
  have h := fun ty => run_append_own (P := Try.prog) (W.alloc (.cells #[.int .u8 (p.1 : Int), .string ⟨p.2.toArray⟩] 47)) n₀ 42 ty 47 i0 (.agg #[.int .u8 0, .string ⟨#[]⟩]) 2 24 Try.underlying42 hi hz0 hz1 hz2 rfl (by decide) v k xs (hown.alloc _) ⟨W.heap.size, 0, none⟩ 1 1 (pcC p) rfl
    (by intro j u hj; rw [addr_add, Nat.zero_add]; exact (hrow.cell j).trans hj) (by intro u hu; simp only [pcC, strV, List.mem_cons, List.not_mem_nil, or_false] at hu; rcases hu with rfl | rfl <;> rfl) (by unfold maxLen; omega) (by omega) (by simp; omega)
  obtain ⟨v', w3, hrun, h1, h2, h3⟩ := h 0
  obtain ⟨g, cap, rfl⟩ : ∃ g cap, v' = .slice (some ⟨g, 0, none⟩) (k + 1) cap := by
    rcases h1.2 with ⟨_, h0⟩ | ⟨g, cap, cur, e, _⟩
    · omega
    · exact ⟨g, cap, e⟩
  exact ⟨g, cap, w3, fun ty => hrun, h1, h2⟩
/-- a cutter at work at block g, its pieces in rows from block M on -/
def Kn (W : World) (g M : Nat) (c : Ct) (ps : List PcT) : Prop := ∃ V, RowAt W g [strV c.rest, .bool c.bad, .int .i64 c.skip, V] 75 ∧ W.ownsRow M 47 2 V ps.length (pcCs ps)
/-- what stays while it works -/
structure Kp (g M : Nat) (W W' : World) : Prop where
  os : W'.os = W.os
  tape : W'.tape = W.tape
  output : W'.output = W.output
  size : W.heap.size ≤ W'.heap.size
  block : ∀ k, k < M → k ≠ g → W'.heap[k]? = W.heap[k]?
theorem Kp.refl (g M : Nat) (W : World) : Kp g M W W := ⟨rfl, rfl, rfl, Nat.le_refl _, fun _ _ _ => rfl⟩
theorem Kp.trans {g M : Nat} {a b c : World} (h1 : Kp g M a b) (h2 : Kp g M b c) : Kp g M a c := ⟨h2.os.trans h1.os, h2.tape.trans h1.tape, h2.output.trans h1.output, Nat.le_trans h1.size h2.size, fun k hk hn => (h2.block k hk hn).trans (h1.block k hk hn)⟩
theorem Kp.below {g M : Nat} {a b : World} (hM : M ≤ a.heap.size) (h : Below a.heap.size a b) : Kp g M a b := ⟨h.os, h.tape, h.output, h.size, fun k hk _ => h.block k (by omega)⟩
theorem Kp.grown {g M : Nat} {a b : World} {r : Option Nat} (hM : M ≤ a.heap.size) (h : a.grownBy b r) (hr : ∀ k, r = some k → k = g ∨ M ≤ k) : Kp g M a b :=
  ⟨h.os, h.tape, h.output, h.size, fun k hk hn => h.block k (by omega) (fun e => by rcases hr k e.symm with h | h <;> omega)⟩
theorem own_ne {W : World} {m e size k b : Nat} {v : Value} {xs : List Value} (h : W.ownsRow m e size v k xs) (hb : b < m) : some b ≠ v.ownBlock := by
  rcases h.2 with ⟨rfl, _⟩ | ⟨g, cap, cur, rfl, hg, _⟩
  · simp [Value.ownBlock]
  · intro e
    obtain rfl : b = g := by simpa [Value.ownBlock] using e
    omega
theorem own_at {W : World} {m e size k : Nat} {v : Value} {xs : List Value} (h : W.ownsRow m e size v k xs) : ∀ j, v.ownBlock = some j → m ≤ j := by
  rcases h.2 with ⟨rfl, _⟩ | ⟨g, cap, cur, rfl, hg, _⟩
  · intro j e; simp [Value.ownBlock] at e
  · intro j e
    obtain rfl : g = j := by simpa [Value.ownBlock] using e
    exact hg
theorem grown_set (W : World) (b o : Nat) (v : Value) : W.grownBy (W.setCell ⟨b, o, none⟩ v) (some b) :=
  ⟨rfl, rfl, rfl, by simp [World.setCell], fun k hk hn => by simp only [World.setCell, Array.getElem?_modify]; rw [if_neg (fun e => hn (by rw [e]))]⟩
theorem own_set {W : World} {m e size k b o : Nat} {v x : Value} {xs : List Value} (h : W.ownsRow m e size v k xs) (hb : b < m) : (W.setCell ⟨b, o, none⟩ x).ownsRow m e size v k xs :=
  h.kept (grown_set W b o x) (.inr (fun e => own_ne h hb e.symm))
theorem own_below {W W' : World} {m e size k : Nat} {v : Value} {xs : List Value} (h : W.ownsRow m e size v k xs) (hb : Below W.heap.size W W') : W'.ownsRow m e size v k xs :=
  h.kept (row := none) ⟨hb.os, hb.tape, hb.output, hb.size, fun k hk _ => hb.block k hk⟩ (by cases v.ownBlock <;> simp)
theorem kp_set {g M : Nat} (W : World) (o : Nat) (x : Value) (hM : M ≤ W.heap.size) : Kp g M W (W.setCell ⟨g, o, none⟩ x) := Kp.grown hM (grown_set W g o x) (fun k e => .inl (by injection e with e; exact e.symm))
theorem rowAt_kept {W W' : World} {g : Nat} {cs : List Value} {t : TypeId} {r : Option Nat} (h : RowAt W g cs t) (hg : W.grownBy W' r) (hne : some g ≠ r) : RowAt W' g cs t := (hg.block g h.lt hne).trans h
set_option maxHeartbeats 1000000 in
theorem tell_any (g M : Nat) (c : Ct) (ps : List PcT) (k : Nat) (l : List UInt8) (W : World) (hg : g < M) (hM : M ≤ W.heap.size) (hk : Kn W g M c ps) (hl : ps.length ≤ 4398046511104) :
    Calls Try.prog 78 #[.pointer (some ⟨g, 0, none⟩), .int .u8 (k : Int), .string ⟨l.toArray⟩] W fun e W' => e = .returned (.tuple #[]) ∧ Kn W' g M c (ps ++ [(k, l)]) ∧ Kp g M W W' := by
  obtain ⟨V, hr, ho⟩ := hk
  obtain ⟨q, cap, w3, hrun, h1, h2⟩ := append_pc (k, l) ho hl hM
  have hr1 := rowAt_kept (hr.alloc (.cells #[.int .u8 (k : Int), .string ⟨l.toArray⟩] 47)) h2 (own_ne ho hg)
  have hM1 : M ≤ (W.alloc (.cells #[.int .u8 (k : Int), .string ⟨l.toArray⟩] 47)).heap.size := by simp; omega
  have hM3 : M ≤ w3.heap.size := Nat.le_trans hM1 h2.size
  have hk1 : Kp g M W w3 := (Kp.below hM (below_new (Below.refl _ _) _)).trans (Kp.grown hM1 h2 (fun j e => .inr (own_at ho j e)))
  have hfin : Kn (w3.setCell ⟨g, 3, none⟩ (.slice (some ⟨q, 0, none⟩) (ps.length + 1) cap)) g M c (ps ++ [(k, l)]) := by
    refine ⟨.slice (some ⟨q, 0, none⟩) (ps.length + 1) cap, hr1.set1 3 _, ?_⟩
    rw [pcCs_app, List.length_append]
    exact own_set h1 hg
  have hk2 := hk1.trans (kp_set (g := g) w3 3 (.slice (some ⟨q, 0, none⟩) (ps.length + 1) cap) hM3)
  have HF : Hid (Kn (w3.setCell ⟨g, 3, none⟩ (.slice (some ⟨q, 0, none⟩) (ps.length + 1) cap)) g M c (ps ++ [(k, l)])) := hfin
  have HK : Hid (Kp g M W (w3.setCell ⟨g, 3, none⟩ (.slice (some ⟨q, 0, none⟩) (ps.length + 1) cap))) := hk2
  obtain ⟨x0, x1, x2, x3, xf⟩ := cells4 hr
  obtain ⟨y0, y1, y2, y3, yf⟩ := cells4 hr1
  clear hfin hk2 hk1 h1 h2 hr1 hr ho hM1 hl x0 x1 x2 y0 y1 y2
  generalize ps.length = N at *
  generalize (⟨l.toArray⟩ : ByteArray) = z at *
  go_enter Try.func78, Try.ntmps78
  go_wp2_with fail
  go_returns
  exact ⟨rfl, HF.out, HK.out⟩
theorem Kn.cells {W : World} {g M : Nat} {c : Ct} {ps : List PcT} (h : Kn W g M c ps) : ∃ V, W.cell? ⟨g, 0, none⟩ = some (.string ⟨c.rest.toArray⟩) ∧ W.cell? ⟨g, 1, none⟩ = some (.bool c.bad) ∧ W.cell? ⟨g, 2, none⟩ = some (.int .i64 c.skip) ∧ W.cell? ⟨g, 3, none⟩ = some V ∧ (∀ k, W.frozen? ⟨g, k, none⟩ = false) ∧ g < W.heap.size := by
  obtain ⟨V, hr, _⟩ := h
  obtain ⟨x0, x1, x2, x3, xf⟩ := cells4 hr
  exact ⟨V, x0, x1, x2, x3, xf, hr.lt⟩
theorem Kn.below {W W' : World} {g M : Nat} {c : Ct} {ps : List PcT} (h : Kn W g M c ps) (hb : Below W.heap.size W W') : Kn W' g M c ps := by
  obtain ⟨V, hr, ho⟩ := h
  exact ⟨V, hr.below hb, own_below ho hb⟩
theorem Kn.set0 {W : World} {g M : Nat} {c : Ct} {ps : List PcT} (h : Kn W g M c ps) (hg : g < M) (l : List UInt8) : Kn (W.setCell ⟨g, 0, none⟩ (.string ⟨l.toArray⟩)) g M ⟨l, c.bad, c.skip⟩ ps := by
  obtain ⟨V, hr, ho⟩ := h
  exact ⟨V, hr.set1 0 _, own_set ho hg⟩
theorem Kn.set1 {W : World} {g M : Nat} {c : Ct} {ps : List PcT} (h : Kn W g M c ps) (hg : g < M) (b : Bool) : Kn (W.setCell ⟨g, 1, none⟩ (.bool b)) g M ⟨c.rest, b, c.skip⟩ ps := by
  obtain ⟨V, hr, ho⟩ := h
  exact ⟨V, hr.set1 1 _, own_set ho hg⟩
theorem Kn.set2 {W : World} {g M : Nat} {c : Ct} {ps : List PcT} (h : Kn W g M c ps) (hg : g < M) (s : Int) : Kn (W.setCell ⟨g, 2, none⟩ (.int .i64 s)) g M ⟨c.rest, c.bad, s⟩ ps := by
  obtain ⟨V, hr, ho⟩ := h
  exact ⟨V, hr.set1 2 _, own_set ho hg⟩
theorem size_set (W : World) (a : Addr) (v : Value) : (W.setCell a v).heap.size = W.heap.size := by simp [World.setCell]
/-- 'string([]byte{b})' -/
theorem conv_at (W : World) (g : Nat) (b : UInt8) (h : W.cell? ⟨g, 0, none⟩ = some (.int .u8 (b.toNat : Int))) : (convert 23 9 (.slice (some ⟨g, 0, none⟩) 1 1)).run Try.prog W = .ok (.string ⟨[b].toArray⟩) W :=
  run_convert_bytes_back (P := Try.prog) W 23 9 5 ⟨g, 0, none⟩ 1 [b] Try.underlying23 Try.underlying5 Try.underlying9 (fun j hj => by
    obtain rfl : j = 0 := by simpa using hj
    rw [addr_add]
    exact h)
theorem conv1 (W : World) (b : UInt8) : (convert 23 9 (.slice (some ⟨W.heap.size, 0, none⟩) 1 1)).run Try.prog (W.alloc (.cells #[.int .u8 (b.toNat : Int)] 5)) = .ok (.string ⟨#[b]⟩) (W.alloc (.cells #[.int .u8 (b.toNat : Int)] 5)) :=
  conv_at _ _ b ((RowAt.new W [.int .u8 (b.toNat : Int)] 5).cell 0)
theorem conv1d (W : World) (b : UInt8) : (convert 23 9 (.slice (some ⟨W.heap.size, 0, none⟩) 1 1)).run Try.prog (W.alloc (.cells #[.int .u8 (b.toNat : Int)] 5)).drew = .ok (.string ⟨#[b]⟩) (W.alloc (.cells #[.int .u8 (b.toNat : Int)] 5)).drew :=
  conv_at _ _ b ((RowAt.new W [.int .u8 (b.toNat : Int)] 5).cell 0)
theorem stepB1 (bd : Bool) (b : UInt8) (h : b = 245) : stepC ⟨[], bd, 0⟩ b = (⟨[b], false, 0⟩, []) := by subst h; rfl
theorem stepB2 (b : UInt8) (h : ¬ b = 245) : stepC ⟨[], true, 0⟩ b = (⟨[], true, 0⟩, []) := by
  unfold stepC; simp [h]
theorem stepB3 (b : UInt8) (h : ¬ b = 245) : stepC ⟨[], false, 0⟩ b = (⟨[], true, 0⟩, [(2, [])]) := by
  unfold stepC; simp [h]
theorem byte_eq {x : UInt8} (h : x = 245) : ((x.toNat : Int) == 245) = true := by subst h; rfl
theorem byte_ne2 {x : UInt8} (h : ¬ x = 245) : ((x.toNat : Int) == 245) = false := by
  have : x.toNat ≠ 245 := fun e => h (UInt8.toNat_inj.1 e)
  simp; omega
set_option maxHeartbeats 1000000 in
theorem begin_any (g M : Nat) (c : Ct) (ps : List PcT) (b : UInt8) (W : World) (hg : g < M) (hM : M ≤ W.heap.size) (hk : Kn W g M c ps) (hl : ps.length ≤ 4398046511104) (hr : c.rest = []) (hs : c.skip = 0) :
    Calls Try.prog 44 #[.pointer (some ⟨g, 0, none⟩), .int .u8 (b.toNat : Int)] W fun e W' => e = .returned (.tuple #[]) ∧ Kn W' g M (stepC c b).1 (ps ++ (stepC c b).2) ∧ Kp g M W W' := by
  obtain ⟨r, bd, s⟩ := c
  simp only at hr hs
  subst hr hs
  obtain ⟨V, x0, x1, x2, x3, xf, hlt⟩ := hk.cells
  by_cases hb : b = 245
  · have hcv := conv1 W b
    rw [stepB1 bd b hb, List.append_nil]
    have q := byte_eq hb
    clear hb
    have hk1 := ((hk.set0 hg [b]).set1 hg false).below (below_new (Below.refl _ _) (.cells #[.int .u8 (b.toNat : Int)] 5))
    have hm1 : M ≤ (W.setCell ⟨g, 0, none⟩ (.string ⟨[b].toArray⟩)).heap.size := by rw [size_set]; exact hM
    have hp1 := ((kp_set (g := g) W 0 (.string ⟨[b].toArray⟩) hM).trans (kp_set (g := g) _ 1 (.bool false) hm1)).trans (Kp.below (g := g) (by rw [size_set]; exact hm1) (below_new (Below.refl _ _) (.cells #[.int .u8 (b.toNat : Int)] 5)))
    have HK1 : Hid (Kn _ _ _ _ _) := hk1
    have HP1 : Hid (Kp _ _ _ _) := hp1
    clear hk1 hp1 hk
    go_enter Try.func44, Try.ntmps44
    go_wp2_with fail
    go_returns
    exact ⟨rfl, HK1.out, HP1.out⟩
  · have q := byte_ne2 hb
    cases bd
    · rw [stepB3 b hb]
      clear hb
      have hk1 := hk.set1 hg true
      have ct := tell_any g M ⟨[], true, 0⟩ ps 2 [] _ hg (by rw [size_set]; exact hM) hk1 hl
      have hp1 := kp_set (g := g) W 1 (.bool true) hM
      clear hk hk1
      go_enter Try.func44, Try.ntmps44
      go_wp2_with fail
      go_at_call 78; refine ct.mono ?_; rintro e w1 ⟨rfl, hk2, hp2⟩
      go_wp2_with fail
      go_returns
      exact ⟨rfl, hk2, hp1.trans hp2⟩
    · rw [stepB2 b hb, List.append_nil]
      clear hb
      go_enter Try.func44, Try.ntmps44
      go_wp2_with fail
      go_returns
      exact ⟨rfl, hk, Kp.refl _ _ _⟩
theorem bytes_cat (a b : List UInt8) : (⟨a.toArray⟩ : ByteArray) ++ ⟨b.toArray⟩ = ⟨(a ++ b).toArray⟩ := by
  apply ByteArray.ext
  simp
theorem drop3 (z : List UInt8) (h : 3 ≤ z.length) : (⟨z.toArray⟩ : ByteArray).extract 3 z.length = ⟨(z.drop 3).toArray⟩ := by
  apply ByteArray.ext
  simp
  rw [List.take_of_length_le (by simp)]
theorem stepG (r : List UInt8) (b : UInt8) (h : 1 ≤ r.length) : stepC ⟨r, false, 0⟩ b = if (r ++ [b]).length < 3 then (⟨r ++ [b], false, 0⟩, []) else if fitN (toldN (r ++ [b])) = false then (⟨[], false, toldN (r ++ [b])⟩, [(3, [])]) else if (r ++ [b]).length = 3 + toldN (r ++ [b]) then (⟨[], false, 0⟩, [(1, (r ++ [b]).drop 3)]) else (⟨r ++ [b], false, 0⟩, []) := by
  have hl : (r ++ [b]).length = r.length + 1 := by simp
  have hne : r.isEmpty = false := by cases r; simp at h; rfl
  rw [hl]
  unfold stepC
  simp only [Int.lt_irrefl, if_false, hne, Bool.false_eq_true]
set_option maxHeartbeats 4000000 in
theorem goOn_any (g M : Nat) (c : Ct) (ps : List PcT) (b : UInt8) (W : World) (hg : g < M) (hM : M ≤ W.heap.size) (hk : Kn W g M c ps) (hl : ps.length ≤ 4398046511104) (hr : 1 ≤ c.rest.length ∧ c.rest.length ≤ 66) (hb : c.bad = false) (hs : c.skip = 0) :
    Calls Try.prog 45 #[.pointer (some ⟨g, 0, none⟩), .int .u8 (b.toNat : Int)] W fun e W' => e = .returned (.tuple #[]) ∧ Kn W' g M (stepC c b).1 (ps ++ (stepC c b).2) ∧ Kp g M W W' := by
  obtain ⟨r, bd, s⟩ := c
  simp only at hr hb hs
  subst hb hs
  have HS : Hid (stepC ⟨r, false, 0⟩ b = _) := stepG r b hr.1
  generalize stepC ⟨r, false, 0⟩ b = S at HS ⊢
  obtain ⟨V, x0, x1, x2, x3, xf, hlt⟩ := hk.cells
  simp only at x0 x1 x2
  have hcv := conv1 W b
  have hcd := conv1d W b
  have hri : (r.length : Int) ≤ 66 := by omega
  have hcat : (⟨r.toArray⟩ : ByteArray) ++ ⟨#[b]⟩ = ⟨(r ++ [b]).toArray⟩ := bytes_cat r [b]
  have hzl : 2 ≤ (r ++ [b]).length ∧ (r ++ [b]).length ≤ 67 := by simp; omega
  have hd3 := drop3 (r ++ [b])
  have hY := ((hk.set0 hg (r ++ [b])).below (below_drew (below_new (Below.refl _ _) (.cells #[.int .u8 (b.toNat : Int)] 5))))
  have hP : Kp g M W ((W.setCell ⟨g, 0, none⟩ (.string ⟨(r ++ [b]).toArray⟩)).alloc (.cells #[.int .u8 (b.toNat : Int)] 5)).drew := (kp_set (g := g) W 0 (.string ⟨(r ++ [b]).toArray⟩) hM).trans (Kp.below (by rw [size_set]; exact hM) (below_drew (below_new (Below.refl _ _) _)))
  go_enter Try.func45, Try.ntmps45
  go_wp2_with fail
  go_region
  obtain ⟨Y, hYe⟩ : ∃ Y, Y = ((W.setCell ⟨g, 0, none⟩ (.string ⟨(r ++ [b]).toArray⟩)).alloc (.cells #[.int .u8 (b.toNat : Int)] 5)).drew := ⟨_, rfl⟩
  rw [← hYe] at hY hP ⊢
  clear hYe hcv hcd hcat hk x0 x1 x2 x3 xf V hlt hri hr
  generalize r ++ [b] = z at *
  have hM2 : M ≤ Y.heap.size := Nat.le_trans hM hP.size
  obtain ⟨V, x0, x1, x2, x3, xf, hlt⟩ := hY.cells
  simp only at x0 x1 x2
  have hzi : (z.length : Int) ≤ 67 := by omega
  by_cases h3 : z.length < 3
  · have d3 : decide ((z.length : Int) < 3) = true := decide_eq_true (by omega)
    have HV : Hid (S = (⟨z, false, 0⟩, [])) := by show _ = _; rw [HS.out, if_pos h3]
    go_wp2_with fail
    go_returns
    exact ⟨rfl, by rw [HV.out, List.append_nil]; exact hY, hP⟩
  · have d3 : decide ((z.length : Int) < 3) = false := decide_eq_false (by omega)
    have d3n : decide (z.length < 3) = false := decide_eq_false (by omega)
    have ct := fun W => toldBy_any z W (by omega) (by omega)
    have htl := toldN_lt z
    have cf := fun W => isFit_any (toldN z) W (by omega)
    have HT : Hid (S = if fitN (toldN z) = false then (⟨[], false, toldN z⟩, [(3, [])]) else if z.length = 3 + toldN z then (⟨[], false, 0⟩, [(1, z.drop 3)]) else (⟨z, false, 0⟩, [])) := by show _ = _; rw [HS.out, if_neg h3]
    have hd4 := hd3 (by omega)
    have h3i : (3 : Int) ≤ (z.length : Int) := by omega
    have h3n : 3 ≤ z.length := by omega
    clear HS hd3 h3
    generalize toldN z = T at *
    have hTi : (T : Int) ≤ 65535 := by omega
    generalize fitN T = B at *
    go_wp2_with fail
    go_at_call 77; refine (ct _).mono ?_; rintro e w1 ⟨rfl, hb1⟩
    have hY1 := hY.below hb1
    have hP1 := hP.trans (Kp.below hM2 hb1)
    have hM3 : M ≤ w1.heap.size := Nat.le_trans hM2 hb1.size
    clear hY hP hM2 hb1 x0 x1 x2 x3 xf hlt V
    obtain ⟨V, x0, x1, x2, x3, xf, hlt⟩ := hY1.cells
    simp only at x0 x1 x2
    go_wp2_with fail
    go_at_call 19; refine (cf _).mono ?_; rintro e w2 ⟨rfl, rfl⟩
    cases B
    · have HV : Hid (S = (⟨[], false, T⟩, [(3, [])])) := by show _ = _; rw [HT.out]; rfl
      clear HT
      have hY2 := (hY1.set0 hg []).set2 hg (T : Int)
      have hP2 := (hP1.trans (kp_set (g := g) _ 0 (.string ⟨#[]⟩) hM3)).trans (kp_set (g := g) _ 2 (.int .i64 (T : Int)) (by rw [size_set]; exact hM3))
      have cl := tell_any g M ⟨[], false, T⟩ ps 3 [] _ hg (by rw [size_set, size_set]; exact hM3) hY2 hl
      clear hY1 hY2
      go_wp2_with fail
      go_at_call 78; refine cl.mono ?_; rintro e w3 ⟨rfl, hk2, hp2⟩
      go_wp2_with fail
      go_returns
      exact ⟨rfl, by rw [HV.out]; exact hk2, hP2.trans hp2⟩
    · by_cases he : z.length = 3 + T
      · have HV : Hid (S = (⟨[], false, 0⟩, [(1, z.drop 3)])) := by show _ = _; rw [HT.out, if_neg (by simp), if_pos he]
        have d5 : ((z.length : Int) == 3 + (T : Int)) = true := by rw [he]; simp
        clear HT he
        have cl := tell_any g M ⟨z, false, 0⟩ ps 1 (z.drop 3) _ hg hM3 hY1 hl
        go_wp2_with fail
        go_at_call 78; refine cl.mono ?_; rintro e w3 ⟨rfl, hk2, hp2⟩
        have hY3 := hk2.set0 hg []
        have hP3 := (hP1.trans hp2).trans (kp_set (g := g) w3 0 (.string ⟨#[]⟩) (Nat.le_trans hM3 hp2.size))
        clear hY1 x0 x1 x2 x3 xf hlt V
        obtain ⟨V, x0, x1, x2, x3, xf, hlt⟩ := hk2.cells
        simp only at x0 x1 x2
        go_wp2_with fail
        go_returns
        exact ⟨rfl, by rw [HV.out]; exact hY3, hP3⟩
      · have HV : Hid (S = (⟨z, false, 0⟩, [])) := by show _ = _; rw [HT.out, if_neg (by simp), if_neg he]
        have d5 : ((z.length : Int) == 3 + (T : Int)) = false := by simp; omega
        clear HT
        go_wp2_with fail
        go_returns
        exact ⟨rfl, by rw [HV.out, List.append_nil]; exact hY1, hP1⟩
theorem stepS (c : Ct) (b : UInt8) (h : 0 < c.skip) : stepC c b = (⟨c.rest, c.bad, c.skip - 1⟩, []) := by unfold stepC; rw [if_pos h]
set_option maxHeartbeats 1000000 in
theorem come_any (g M : Nat) (c : Ct) (ps : List PcT) (b : UInt8) (W : World) (hg : g < M) (hM : M ≤ W.heap.size) (hk : Kn W g M c ps) (hl : ps.length ≤ 4398046511104) (hc : okC c = true) :
    Calls Try.prog 21 #[.pointer (some ⟨g, 0, none⟩), .int .u8 (b.toNat : Int)] W fun e W' => e = .returned (.tuple #[]) ∧ Kn W' g M (stepC c b).1 (ps ++ (stepC c b).2) ∧ Kp g M W W' := by
  obtain ⟨h1, h2, h3, h4⟩ := (okC_iff c).1 hc
  have hrl := rest_le hc
  obtain ⟨V, x0, x1, x2, x3, xf, hlt⟩ := hk.cells
  by_cases hs : 0 < c.skip
  · rw [stepS c b hs, List.append_nil]
    have d : decide (0 < c.skip) = true := decide_eq_true hs
    have hk1 := hk.set2 hg (c.skip - 1)
    have hp1 := kp_set (g := g) W 2 (.int .i64 (c.skip - 1)) hM
    obtain ⟨hlo, hhi⟩ := h2
    generalize c.skip = s at *
    go_enter Try.func21, Try.ntmps21
    go_wp2_with fail
    go_returns
    exact ⟨rfl, hk1, hp1⟩
  · have hs0 : c.skip = 0 := by omega
    rw [hs0] at x2
    cases hr : c.rest with
    | nil =>
      have cb := begin_any g M c ps b W hg hM hk hl hr hs0
      rw [hr] at x0
      clear hs0 hr hs h1 h2 h3 h4
      go_enter Try.func21, Try.ntmps21
      go_wp2_with fail
      go_at_call 44; refine cb.mono ?_; rintro e w1 ⟨rfl, hk2, hp2⟩
      go_wp2_with fail
      go_returns
      exact ⟨rfl, hk2, hp2⟩
    | cons y t =>
      have hne : c.rest ≠ [] := by rw [hr]; simp
      have cb := goOn_any g M c ps b W hg hM hk hl ⟨by rw [hr]; simp, hrl⟩ (h3 hne).1 hs0
      have hemp : c.rest.isEmpty = false := by rw [hr]; rfl
      clear hs0 hr hs h1 h2 h3 h4 hne
      generalize c.rest = r at x0 hemp
      go_enter Try.func21, Try.ntmps21
      go_wp2_with fail
      go_at_call 45; refine cb.mono ?_; rintro e w1 ⟨rfl, hk2, hp2⟩
      go_wp2_with fail
      go_returns
      exact ⟨rfl, hk2, hp2⟩
end Go.Proofs.Ytemefcojmidmbaa.Cut
namespace Go.Proofs.Ytemefcojmidmbaa.Cut
open Go.RowKit
attribute [-go_sem] Builtin.append_

theorem clone_any (s : ByteArray) (w : World) (hs : s.size ≤ 281474976710656) :
    Calls Try.prog 22 #[.string s] w fun e w' => e = .returned (.string s) ∧ Below w.heap.size w w' := by
  go_enter Try.func22, Try.ntmps22
  go_wp2_with (go_at_call 46; refine (Try.stringslite_Clone s _ hs).mono ?_; rintro e w1 ⟨rfl, hb⟩)
  go_ret
  exact ⟨rfl, hb⟩
/-- a row that lies in memory: n elements of sz cells each -/
def HasRow (W : World) (v : Value) (sz n : Nat) (cs : List Value) : Prop :=
  cs.length = n * sz ∧ ((v = .slice none 0 0 ∧ n = 0) ∨ ∃ a cap, v = .slice (some a) n cap ∧ n ≤ cap ∧ cap ≤ 9223372036854775807 ∧ (0 < n → a.spot = none ∧ a.block < W.heap.size) ∧ ∀ j, j < n * sz → W.cell? (a.add j) = cs[j]?)
theorem hasRow_own {W : World} {B e sz n : Nat} {v : Value} {cs : List Value} (h : W.ownsRow B e sz v n cs) : HasRow W v sz n cs := by
  refine ⟨h.1, ?_⟩
  rcases h.2 with h0 | ⟨g, cap, cur, rfl, hg, hgb, hnc, hcm, rest⟩
  · exact .inl h0
  · refine .inr ⟨⟨g, 0, none⟩, cap, rfl, hnc, by unfold maxLen at hcm; exact hcm, fun _ => ⟨rfl, (Array.getElem?_eq_some_iff.1 hgb).1⟩, fun j hj => ?_⟩
    rw [addr_add, Nat.zero_add, cell_of_row W g j cur e (0, 0) hgb]
    rw [← rest.2, List.getElem?_take, if_pos hj]
    simp
theorem HasRow.keep {W W' : World} {v : Value} {sz n : Nat} {cs : List Value} (h : HasRow W v sz n cs) (hb : Below W.heap.size W W') : HasRow W' v sz n cs := by
  refine ⟨h.1, ?_⟩
  rcases h.2 with h0 | ⟨a, cap, e, h1, h2, h3, h4⟩
  · exact .inl h0
  · refine .inr ⟨a, cap, e, h1, h2, fun h => ⟨(h3 h).1, Nat.lt_of_lt_of_le (h3 h).2 hb.size⟩, fun j hj => ?_⟩
    have hn : 0 < n := by rcases Nat.eq_zero_or_pos n with h0 | h0; rw [h0] at hj; omega; exact h0
    obtain ⟨b, i, s⟩ := a
    obtain ⟨hs, hlt⟩ := h3 hn
    simp only at hs hlt
    subst hs
    have h5 := h4 j hj
    rw [addr_add] at h5 ⊢
    rw [← h5]
    exact hb.cell (p := ⟨b, i + j, none⟩) hlt
def HasPcs (W : World) (v : Value) (ps : List PcT) : Prop := HasRow W v 2 ps.length (pcCs ps)
def fedC (c : Ct) (l : List UInt8) : Ct × List PcT := if okC c then feedC c l else (zeroC, [])
theorem fed_ok {c : Ct} (h : okC c = true) (l : List UInt8) : fedC c l = feedC c l ∧ checkC c = 0 := by unfold fedC checkC; rw [h]; exact ⟨rfl, rfl⟩
theorem fed_bad {c : Ct} (h : okC c = false) (l : List UInt8) : fedC c l = (zeroC, []) ∧ checkC c = 2 := by unfold fedC checkC; rw [h]; exact ⟨rfl, rfl⟩
theorem results_cell_tmp2 {fn : Func} {p u x : Tmp} {ty : TypeId} (h : fn.results = #[.cell p ty, .tmp u, .tmp x]) (tmps : Array Value) (P : Program) (w : World) :
    (results fn tmps).run P w = ((asAddr (tmps.getD p undef)).run P w).andThen fun a w₁ => ((loadVar ty a).run P w₁).andThen fun v w₂ => .ok (.tuple #[v, tmps.getD u undef, tmps.getD x undef]) w₂ := by
  simp only [results, h]
  simp [Sem.run_bind, Result.andThen]
theorem take_snoc (l : List UInt8) (k : Nat) (h : k < l.length) : l.take (k + 1) = l.take k ++ [l.getD k 0] := by
  rw [List.take_succ_eq_append_getElem h, List.getD_eq_getElem?_getD, List.getElem?_eq_getElem h]; rfl
/-- a row of memory that a call made -/
def NewIn (w : World) (v : Value) : Prop := ∀ a n c, v = .slice (some a) n c → w.heap.size ≤ a.block
theorem newIn_own {w W : World} {m e size k : Nat} {v : Value} {xs : List Value} (h : W.ownsRow m e size v k xs) (hm : w.heap.size ≤ m) : NewIn w v := by
  rcases h.2 with ⟨rfl, _⟩ | ⟨g, cap, cur, rfl, hg, _⟩
  · intro a n c e; injection e with e; cases e
  · intro a n c e; injection e with e; injection e with e; subst e; exact Nat.le_trans hm hg
set_option maxHeartbeats 2000000 in
theorem feedN_any (c : Ct) (l : List UInt8) (w : World) (hf : FitC c) (hl : l.length ≤ 1099511627776) :
    Calls Try.prog 8 #[ctV c, .string ⟨l.toArray⟩] w fun e w' => ∃ V, e = .returned (.tuple #[ctV (fedC c l).1, V, .int .i64 (checkC c)]) ∧ (HasPcs w' V (fedC c l).2 ∧ NewIn w V) ∧ Below w.heap.size w w' := by
  have cc := fun W => check_any c W hf
  cases hok : okC c
  · obtain ⟨e1, e2⟩ := fed_bad hok l
    rw [e1, e2]
    rw [e2] at cc
    obtain ⟨r, b, s⟩ := c
    unfold ctV strV at *
    simp only at *
    obtain ⟨X, hX⟩ : ∃ X, X = (w.alloc (.cells #[.string ⟨r.toArray⟩, .bool b, .int .i64 s] 41)).alloc (.cells #[.string ⟨#[]⟩, .bool false, .int .i64 0] 41) := ⟨_, rfl⟩
    have hB0 : Below w.heap.size w X := by rw [hX]; exact below_new (below_new (Below.refl _ _) _) _
    have r0 : RowAt X w.heap.size [.string ⟨r.toArray⟩, .bool b, .int .i64 s] 41 := by rw [hX]; exact (RowAt.new _ _ _).alloc _
    have r1 : RowAt X (w.heap.size + 1) [.string ⟨#[]⟩, .bool false, .int .i64 0] 41 := by rw [hX, ← World.size_alloc w (.cells #[.string ⟨r.toArray⟩, .bool b, .int .i64 s] 41)]; exact RowAt.new _ _ _
    obtain ⟨x0, x1, x2, xf⟩ := cells3 r0
    have hlt := r0.lt
    clear hok hf e1 e2
    go_enter Try.func8, Try.ntmps8
    go_upto_region 1 with fail
    rw [← hX]
    clear hX
    go_wp2_with fail
    go_at_call 20; refine (cc _).mono ?_; rintro e w1 ⟨rfl, hb1⟩
    have hB1 := below2 hB0 hb1
    obtain ⟨y0, y1, y2, yf⟩ := cells3 (r1.below hb1)
    have hlt1 := (r1.below hb1).lt
    clear hB0 x0 x1 x2 xf r0
    go_wp2_with fail
    refine bodyPost_ret (v := .tuple #[.agg #[.string ⟨#[]⟩, .bool false, .int .i64 0], .slice none 0 0, .int .i64 2]) ?_ rfl ⟨.slice none 0 0, rfl, ⟨⟨rfl, .inl ⟨rfl, rfl⟩⟩, fun a n c e => by injection e with e; cases e⟩, ?_⟩
    · rw [results_cell_tmp2 rfl]
      go_simp
    · repeat' (first | with_reducible exact hB1 | with_reducible refine bset ?_ (by omega))
  · obtain ⟨e1, e2⟩ := fed_ok hok l
    rw [e1, e2]
    rw [e2] at cc
    clear e1 e2
    obtain ⟨F, hF⟩ : ∃ F, F = feedC c l := ⟨_, rfl⟩
    rw [← hF]
    obtain ⟨⟨r, b, s⟩, ps⟩ := F
    have HF : Hid (feedC c l = (⟨r, b, s⟩, ps)) := hF.symm
    clear hF
    have hff := (okC_iff c).1 hok
    obtain ⟨X, hX⟩ : ∃ X, X = (w.alloc (.cells #[.string ⟨c.rest.toArray⟩, .bool c.bad, .int .i64 c.skip] 41)).alloc (.cells #[.string ⟨#[]⟩, .bool false, .int .i64 0] 41) := ⟨_, rfl⟩
    have hB0 : Below w.heap.size w X := by rw [hX]; exact below_new (below_new (Below.refl _ _) _) _
    have r0 : RowAt X w.heap.size [.string ⟨c.rest.toArray⟩, .bool c.bad, .int .i64 c.skip] 41 := by rw [hX]; exact (RowAt.new _ _ _).alloc _
    have r1 : RowAt X (w.heap.size + 1) [.string ⟨#[]⟩, .bool false, .int .i64 0] 41 := by rw [hX, ← World.size_alloc w (.cells #[.string ⟨c.rest.toArray⟩, .bool c.bad, .int .i64 c.skip] 41)]; exact RowAt.new _ _ _
    obtain ⟨x0, x1, x2, xf⟩ := cells3 r0
    have hlt := r0.lt
    have hR : ∀ k, okC (feedC c (l.take k)).1 = true := fun k => feed_ok _ hok
    have hL : ∀ k, (feedC c (l.take k)).2.length ≤ 4398046511104 := fun k => Nat.le_trans (feed_len (l.take k) c) (by rw [List.length_take]; omega)
    have HB : Hid (∀ k, k < l.length → ∀ h : k < (⟨l.toArray⟩ : ByteArray).size, (⟨l.toArray⟩ : ByteArray)[k] = l.getD k 0) := fun k hk h => byte_at l k h
    have HE : Hid (l.take l.length = l) := List.take_length
    have hli : (l.length : Int) ≤ 1099511627776 := by omega
    have HFS : Hid (∀ k, k < l.length → feedC c (l.take (k + 1)) = ((stepC (feedC c (l.take k)).1 (l.getD k 0)).1, (feedC c (l.take k)).2 ++ (stepC (feedC c (l.take k)).1 (l.getD k 0)).2)) := fun k hk => by rw [take_snoc l k hk, feed_snoc]
    have H0 : Hid (feedC c (l.take 0) = (c, [])) := by show _ = _; rfl
    have hcv : ctV c = .agg #[.string ⟨c.rest.toArray⟩, .bool c.bad, .int .i64 c.skip] := rfl
    rw [hcv] at *
    clear hf hok hff hcv hl
    go_enter Try.func8, Try.ntmps8
    go_upto_region 1 with fail
    rw [← hX]
    clear hX
    go_wp2_with fail
    go_at_call 20; refine (cc _).mono ?_; rintro e w1 ⟨rfl, hb1⟩
    have hB1 := below2 hB0 hb1
    have r2 := r1.below hb1
    obtain ⟨y0, y1, y2, yf⟩ := cells3 (r0.below hb1)
    have hlt1 := r2.lt
    clear hB0 x0 x1 x2 xf hb1 r1 hlt
    go_upto_region 5 with fail
    obtain ⟨Y, hY⟩ : ∃ Y, Y = w1.alloc (.cells #[.string ⟨c.rest.toArray⟩, .bool c.bad, .int .i64 c.skip, .slice none 0 0] 75) := ⟨_, rfl⟩
    rw [← hY]
    have hbY : Below w1.heap.size w1 Y := by rw [hY]; exact below_new (Below.refl _ _) _
    have kY : Kn Y w1.heap.size (w1.heap.size + 1) c [] := ⟨.slice none 0 0, by rw [hY]; exact RowAt.new _ _ _, World.ownsRow_nil _ _ _ _⟩
    have hMY : w1.heap.size + 1 ≤ Y.heap.size := by rw [hY]; simp
    obtain ⟨g, hgd⟩ : ∃ g, g = w1.heap.size := ⟨_, rfl⟩
    rw [← hgd] at kY hMY hlt1 ⊢
    have hkp : Kp g (g + 1) Y Y := Kp.refl _ _ _
    have r3 := r2.below hbY
    have hBY := below2 hB1 hbY
    clear hY y0 y1 y2 yf hbY hB1 r2 hgd cc
    go_wp2_with fail
    go_loopw [20] (fun i wr => ∃ k : Nat, k ≤ l.length ∧ i = .int .i64 k ∧ Hid (Kn wr g (g + 1) (feedC c (l.take k)).1 (feedC c (l.take k)).2 ∧ Kp g (g + 1) Y wr)) (fun i _ => l.length - (intOf i).toNat)
    case atStart => exact ⟨0, Nat.zero_le _, rfl, by rw [H0.out]; exact kY, hkp⟩
    case round =>
      obtain ⟨k, hk, rfl, HK⟩ := hrel
      obtain ⟨hkn, hkw⟩ := HK.out
      have hM3 : g + 1 ≤ wr.heap.size := Nat.le_trans hMY hkw.size
      by_cases hlt : k < l.length
      · have hb := HB.out k hlt (by rw [size_list]; exact hlt)
        have cm := come_any g (g + 1) _ _ (l.getD k 0) wr (by omega) hM3 hkn (hL k) (hR k)
        have hlti : (k : Int) < (l.length : Int) := by omega
        have HS := HFS.out k hlt
        have HS2 : Hid (feedC c (l.take (k + 1)) = _) := HS
        clear hkn HS
        generalize l.getD k 0 = x at *
        go_wp2_with fail
        go_at_call 21; refine cm.mono ?_; rintro e w2 ⟨rfl, hk2, hp2⟩
        go_wp2_with fail
        go_roundw
        case rel => exact ⟨k + 1, by omega, by go_num, by rw [HS2.out]; exact hk2, hkw.trans hp2⟩
        case measure => simp [intOf]; omega
      · obtain rfl : k = l.length := by omega
        rw [HE.out, HF.out] at hkn
        have hrl := rest_le (hR l.length)
        rw [HE.out, HF.out] at hrl
        clear HK hR hL HFS H0 HB HE hk HF
        simp only at hkn hrl ⊢
        have ccl := fun W => clone_any ⟨r.toArray⟩ W (by rw [size_list]; omega)
        obtain ⟨V, kr, ko⟩ := hkn
        obtain ⟨x0, x1, x2, x3, xf⟩ := cells4 kr
        simp only at x0 x1 x2
        unfold strV at x0
        have hltk := kr.lt
        go_wp2_with fail
        go_at_call 22; refine (ccl _).mono ?_; rintro e w2 ⟨rfl, hb2⟩
        have kr2 := (kr.below hb2).set1 0 (.string ⟨r.toArray⟩)
        have ko2 := own_set (b := g) (o := 0) (x := .string ⟨r.toArray⟩) (own_below ko hb2) (by omega)
        have r4 : RowAt w2 (w.heap.size + 1) [.string ⟨#[]⟩, .bool false, .int .i64 0] 41 := (hb2.block _ (by have := r3.lt; have := hkw.size; omega)).trans ((hkw.block _ (by omega) (by omega)).trans r3)
        have hBk : Below w.heap.size w w2 := by
          refine Below.trans ?_ (hb2.mono (by omega))
          exact ⟨hkw.os.trans hBY.os, hkw.tape.trans hBY.tape, hkw.output.trans hBY.output, Nat.le_trans hBY.size hkw.size, fun j hj => (hkw.block j (by omega) (by omega)).trans (hBY.block j hj)⟩
        have hb5 : Below w.heap.size w (w2.setCell ⟨g, 0, none⟩ (.string ⟨r.toArray⟩)) := bset hBk (by omega)
        have r5 : RowAt (w2.setCell ⟨g, 0, none⟩ (.string ⟨r.toArray⟩)) (w.heap.size + 1) [.string ⟨#[]⟩, .bool false, .int .i64 0] 41 := rowAt_kept r4 (grown_set _ _ _ _) (by intro e; injection e with e; omega)
        obtain ⟨q0, q1, q2, q3, qf⟩ := cells4 (kr.below hb2)
        have hlt2 := (kr.below hb2).lt
        clear kr x0 x1 x2 x3 xf r4 hb2 hkw r3 hBY ko
        go_upto_region 11 with fail
        obtain ⟨Z, hZ⟩ : ∃ Z, Z = w2.setCell ⟨g, 0, none⟩ (.string ⟨r.toArray⟩) := ⟨_, rfl⟩
        rw [← hZ] at kr2 ko2 hb5 r5 ⊢
        clear hZ q0 q1 q2 q3 qf hlt2 hBk
        obtain ⟨x0, x1, x2, x3, xf⟩ := cells4 kr2
        obtain ⟨z0, z1, z2, zf⟩ := cells3 r5
        have hg2 := kr2.lt
        have hg3 := r5.lt
        have HO : Hid (Z.ownsRow (g + 1) 47 2 V ps.length (pcCs ps)) := ko2
        have hne : w.heap.size + 1 ≠ g := by omega
        clear ko2 kr2 r5
        go_region
        go_wp2_with fail
        have HO2 := ((own_set (b := w.heap.size + 1) (o := 2) (x := .int .i64 s) (own_set (b := w.heap.size + 1) (o := 1) (x := .bool b) (own_set (b := w.heap.size + 1) (o := 0) (x := .string ⟨r.toArray⟩) HO.out (by omega)) (by omega)) (by omega)))
        refine bodyPost_ret (v := .tuple #[.agg #[.string ⟨r.toArray⟩, .bool b, .int .i64 s], V, .int .i64 0]) ?_ rfl ⟨V, rfl, ⟨hasRow_own (own_below HO2 (below_drew (Below.refl _ _))), newIn_own HO.out (by omega)⟩, ?_⟩
        · rw [results_cell_tmp2 rfl]
          go_simp
        · apply below_drew
          repeat' (first | with_reducible exact hb5 | with_reducible refine bset ?_ (by omega))
theorem feed_any (c : Ct) (l : List UInt8) (w : World) (hf : FitC c) (hl : l.length ≤ 1099511627776) :
    Calls Try.prog 8 #[ctV c, .string ⟨l.toArray⟩] w fun e w' => ∃ V, e = .returned (.tuple #[ctV (fedC c l).1, V, .int .i64 (checkC c)]) ∧ HasPcs w' V (fedC c l).2 ∧ Below w.heap.size w w' :=
  (feedN_any c l w hf hl).mono fun e w' ⟨V, h1, h2, h3⟩ => ⟨V, h1, h2.1, h3⟩
/-- a row lies elsewhere than what is written -/
theorem HasPcs.grown {W W' : World} {v : Value} {ps : List PcT} {B : Nat} (h : HasPcs W v ps) (hg : W.grownBy W' (some B)) (hB : ∀ a n c, v = .slice (some a) n c → a.block ≠ B) : HasPcs W' v ps := by
  refine ⟨h.1, ?_⟩
  rcases h.2 with h0 | ⟨a, cap, e, h1, h2, h3, h4⟩
  · exact .inl h0
  · refine .inr ⟨a, cap, e, h1, h2, fun h => ⟨(h3 h).1, Nat.lt_of_lt_of_le (h3 h).2 hg.size⟩, fun j hj => ?_⟩
    have hn : 0 < ps.length := by rcases Nat.eq_zero_or_pos ps.length with h0 | h0; rw [h0] at hj; omega; exact h0
    have hne := hB a _ _ e
    obtain ⟨b, i, s⟩ := a
    obtain ⟨hs, hlt⟩ := h3 hn
    simp only at hs hlt hne
    subst hs
    have h5 := h4 j hj
    rw [addr_add] at h5 ⊢
    rw [← h5]
    exact World.cell?_of_block (w := W) (hg.block b hlt (by simp; exact hne))
theorem wrap_ok (l : List UInt8) (h : fitN l.length = true) : 1 ≤ l.length ∧ l.length ≤ 64 := by unfold fitN at h; simpa using h
theorem conv3 (W : World) (n : Nat) (x : Int) (t : TypeId) (hn : n ≤ 64) (hx : x = 0) : (convert 23 9 (.slice (some ⟨W.heap.size, 0, none⟩) 3 3)).run Try.prog (W.alloc (.cells #[.int .u8 245, .int .u8 x, .int .u8 (n : Int)] t)) = .ok (.string ⟨#[245, 0, UInt8.ofNat n]⟩) (W.alloc (.cells #[.int .u8 245, .int .u8 x, .int .u8 (n : Int)] t)) := by
  have hr := RowAt.new W [.int .u8 245, .int .u8 x, .int .u8 (n : Int)] t
  subst hx
  refine run_convert_bytes_back (P := Try.prog) _ 23 9 5 ⟨W.heap.size, 0, none⟩ 3 [245, 0, UInt8.ofNat n] Try.underlying23 Try.underlying5 Try.underlying9 (fun j hj => ?_)
  have hj3 : j < 3 := by simpa using hj
  rw [addr_add, Nat.zero_add, hr.cell]
  have h3 : j = 0 ∨ j = 1 ∨ j = 2 := by omega
  rcases h3 with rfl | rfl | rfl
  · rfl
  · rfl
  · show some (Value.int .u8 (n : Int)) = some (Value.int .u8 ((UInt8.ofNat n).toNat : Int))
    rw [UInt8.toNat_ofNat_of_lt' (by show n < 256; omega)]
set_option maxRecDepth 20000 in
theorem wrap_any (l : List UInt8) (w : World) (hl : (l.length : Int) ≤ 140737488351232) :
    Calls Try.prog 7 #[.string ⟨l.toArray⟩] w fun e w' => e = .returned (.tuple #[strV (if fitN l.length then wrapL l else []), .int .i64 (if fitN l.length then 0 else 11)]) ∧ Below w.heap.size w w' := by
  have cf := fun W => isFit_any l.length W (by omega)
  have hF := wrap_ok l
  have HW : Hid (wrapL l = [245, 0, UInt8.ofNat l.length] ++ l) := rfl
  have hcat := bytes_cat [245, 0, UInt8.ofNat l.length] l
  generalize wrapL l = R at HW ⊢
  cases hb : fitN l.length
  · rw [hb] at cf
    clear hF hb hcat
    unfold strV
    go_enter Try.func7, Try.ntmps7
    go_wp2_with fail
    go_at_call 19; refine (cf _).mono ?_; rintro e w1 ⟨rfl, rfl⟩
    go_wp2_with fail
    go_ret2
    exact ⟨rfl, Below.refl _ _⟩
  · rw [hb] at cf
    have h64 := hF hb
    clear hF hb
    unfold strV
    have hi : (l.length : Int) ≤ 64 := by omega
    have hc3 := conv3 w l.length ((l.length : Int) / 256) 72 (by omega) (by omega)
    rw [← HW.out] at hcat
    have hin : l.length ≤ 64 := h64.2
    clear h64 HW
    go_enter Try.func7, Try.ntmps7
    go_wp2_with fail
    go_at_call 19; refine (cf _).mono ?_; rintro e w1 ⟨rfl, rfl⟩
    go_wp2_with fail
    go_ret2
    exact ⟨rfl, below_new (Below.refl _ _) _⟩
end Go.Proofs.Ytemefcojmidmbaa.Cut
namespace Go.Proofs.Ytemefcojmidmbaa.Cut
open Go.ChangeShapes Go.WideShapes Go.ChangeAt Go.RowKit
section
variable {H : Type} {enc : TypeId × Value → H} {W : World} {base : Nat} {spare : Nat → Bool} {held : Bool}
theorem wfi64 {n : Int} (h : Lit.wf (.int .i64 n)) : -9223372036854775808 ≤ n ∧ n ≤ 9223372036854775807 := by simpa [Lit.wf, IntKind.min, IntKind.max, IntKind.signed, IntKind.bits] using h
set_option maxRecDepth 100000 in
theorem open_cut {v : Value} {d : DataW H} {ps : List MemPlace} {r : Reach} {b0 : Nat} (hval : Value.okWide Try.prog W r b0 41 v) (h : DataW.Trod enc Try.prog W base spare held 41 v d ps) : ∃ c : Ct, v = ctV c ∧ (-9223372036854775808 ≤ c.skip ∧ c.skip ≤ 9223372036854775807) ∧ ∃ parts, d = .agg parts ∧ parts[0]? = some (.lit (.string c.rest)) := by
  obtain ⟨cs, rfl, hsz⟩ := okWide_struct Try.underlying41 hval
  obtain ⟨fuel, hf⟩ := h
  obtain ⟨xs, n, _, hd, hlen, hxl, hfs⟩ := DataW.trod_struct Try.underlying41 hf
  rw [show Try.prog.cellsOf 41 = 3 from by kernel_rfl] at hsz
  obtain ⟨s, c, f, rfl⟩ : ∃ s c f, cs = #[s, c, f] := by
    obtain ⟨l⟩ := cs
    match l, hsz with
    | [s, c, f], _ => exact ⟨s, c, f, rfl⟩
  have g0 : DataW.trod enc Try.prog W base spare held n 9 ((([s, c, f] : List Value).drop 0).take (Try.prog.cellsOf 9)) = xs[0]? := hfs 0 _ rfl
  have g1 : DataW.trod enc Try.prog W base spare held n 4 ((([s, c, f] : List Value).drop 1).take (Try.prog.cellsOf 4)) = xs[1]? := hfs 1 _ rfl
  have g2 : DataW.trod enc Try.prog W base spare held n 3 ((([s, c, f] : List Value).drop 2).take (Try.prog.cellsOf 3)) = xs[2]? := hfs 2 _ rfl
  have hx3 : xs.length = 3 := hxl
  have h0 : xs[0]? = some xs[0] := List.getElem?_eq_getElem (by omega)
  rw [List.getElem?_eq_getElem (by omega)] at g0 g1 g2
  rw [show Try.prog.cellsOf 9 = 1 from by kernel_rfl] at g0
  rw [show Try.prog.cellsOf 4 = 1 from by kernel_rfl] at g1
  rw [show Try.prog.cellsOf 3 = 1 from by kernel_rfl] at g2
  obtain ⟨B, e1, hx, _⟩ := DataW.trod_string Try.underlying9 g0
  obtain ⟨ob, e3, _⟩ := DataW.trod_bool Try.underlying4 g1
  obtain ⟨fu, e2, _, hw⟩ := DataW.trod_int Try.underlying3 g2
  have e1' : s = .string B := by injection e1
  have e2' : f = .int .i64 fu := by injection e2
  have e3' : c = .bool ob := by injection e3
  subst e1' e2' e3'
  obtain ⟨l, rfl, hl⟩ := str_list B
  refine ⟨⟨l, ob, fu⟩, rfl, wfi64 hw, xs.map (·.1), congrArg Prod.fst hd, ?_⟩
  rw [List.getElem?_map, h0, hx]
  simp
end
/-- a slice of texts that came in -/
def HasStrs (W : World) (v : Value) (zs : List (List UInt8)) : Prop :=
  ∃ o cap, v = .slice o zs.length cap ∧ ∀ j (hj : j < zs.length), ∃ b i, o = some ⟨b, i, none⟩ ∧ W.cell? ⟨b, i + j, none⟩ = some (strV zs[j]) ∧ b < W.heap.size
theorem HasStrs.keep {W W' : World} {v : Value} {zs : List (List UInt8)} (h : HasStrs W v zs) (hb : Below W.heap.size W W') : HasStrs W' v zs := by
  obtain ⟨o, cap, e, h⟩ := h
  refine ⟨o, cap, e, fun j hj => ?_⟩
  obtain ⟨b, i, e2, hc, hlt⟩ := h j hj
  exact ⟨b, i, e2, by rw [← hc]; exact hb.cell (p := ⟨b, i + j, none⟩) hlt, Nat.lt_of_lt_of_le hlt hb.size⟩
theorem HasStrs.cell {W : World} {o : Option Addr} {n cap : Nat} {zs : List (List UInt8)} (h : HasStrs W (.slice o n cap) zs) (j : Nat) (hj : j < zs.length) : ∃ b i, o = some ⟨b, i, none⟩ ∧ b < W.heap.size ∧ W.cell? ⟨b, i + j, none⟩ = some (strV zs[j]) := by
  obtain ⟨o', cap', e, h⟩ := h
  injection e with e1 e2 e3
  subst e1
  obtain ⟨b, i, e2, hc, hlt⟩ := h j hj
  exact ⟨b, i, e2, hlt, hc⟩
def IsStrsS (w : World) (a : Option Addr) (len cap : Nat) (zs : List (List UInt8)) : Prop :=
  HasStrs w (.slice a len cap) zs ∧ len = zs.length ∧ len ≤ cap ∧ cap ≤ 9223372036854775807 ∧ (∀ z ∈ zs, z.length ≤ 9223372036854775807) ∧ len * 16 ≤ 140737488351232 ∧ (a = none → cap = 0)
theorem isStrsS_nil (w : World) : IsStrsS w none 0 0 [] := ⟨⟨none, 0, rfl, fun j hj => by simp at hj⟩, rfl, Nat.le_refl _, by decide, by simp, by decide, fun _ => rfl⟩
theorem isStrsS_of {w : World} {a : Addr} {len cap : Nat} {Sx : Nat → ByteArray} (hl : len ≤ cap) (hm : cap ≤ maxLen) (h : ∀ i, i < len → w.cell? (a.add i) = some (.string (Sx i)) ∧ (Sx i).size ≤ maxLen) (hs : len * 16 ≤ 140737488351232) :
    IsStrsS w (some a) len cap ((List.range len).map fun i => (Sx i).data.toList) := by
  unfold maxLen at hm
  refine ⟨⟨some a, cap, by simp, fun j hj => ?_⟩, by simp, hl, hm, fun z hz => ?_, hs, fun e => by cases e⟩
  · have hj' : j < len := by simpa using hj
    obtain ⟨b, off, spot⟩ := a
    have hspot : spot = none := by simpa [Addr.add] using World.cell?_spot (h 0 (by omega)).1
    subst hspot
    have h1 := (h j hj').1
    rw [addr_add] at h1
    refine ⟨b, off, rfl, ?_, ?_⟩
    · rw [h1]; simp [strV]
    · rcases Nat.lt_or_ge b w.heap.size with h' | h'
      · exact h'
      · simp [World.cell?, Array.getElem?_eq_none h'] at h1
  · obtain ⟨i, hi, rfl⟩ := List.mem_map.1 hz
    have := (h i (by simpa using hi)).2
    unfold maxLen at this
    simpa using this
/-- a row of pieces put behind an owned one -/
theorem append_pcs {W : World} {n₀ k : Nat} {v u : Value} {xs : List Value} {ps : List PcT} (hown : W.ownsRow n₀ 47 2 v k xs) (hsrc : HasPcs W u ps) (hb : (k + ps.length) * 24 ≤ 140737488355328) (hn : n₀ ≤ W.heap.size) :
    ∃ v' w3, (∀ ty, (Builtin.append_ #[42, 42] ty #[v, u]).run Try.prog W = .ok v' w3) ∧ w3.ownsRow n₀ 47 2 v' (k + ps.length) (xs ++ pcCs ps) ∧ W.grownBy w3 v.ownBlock := by
  obtain ⟨i0, hi0, hz0, hz1, hz2⟩ := info_parts info_pc
  rcases hsrc.2 with ⟨rfl, h0⟩ | ⟨a, cap, rfl, g1, g2, g3, g4⟩
  · obtain rfl : ps = [] := List.eq_nil_of_length_eq_zero h0
    have := fun ty => run_append_owned_none (P := Try.prog) W n₀ 42 ty 47 i0 2 Try.underlying42 hi0 v k xs hown
    exact ⟨v, W, this, by simpa [pcCs] using hown, World.grownBy.refl _ _⟩
  · have h := run_append_own (P := Try.prog) W n₀ 42 0 47 i0 (.agg #[.int .u8 0, .string ⟨#[]⟩]) 2 24 Try.underlying42 hi0 hz0 hz1 hz2 rfl (by decide) v k xs hown a ps.length cap (pcCs ps) hsrc.1
      (fun j x hj => by rw [g4 j (by rw [← hsrc.1]; exact (List.getElem?_eq_some_iff.1 hj).1)]; exact hj)
      (fun x hx => by
        obtain ⟨p, _, h⟩ := List.mem_flatMap.1 hx
        simp only [pcC, strV, List.mem_cons, List.not_mem_nil, or_false] at h
        rcases h with rfl | rfl <;> rfl) (by unfold maxLen; omega) hb hn
    obtain ⟨v', w3, hrun, k1, k2, _⟩ := h
    exact ⟨v', w3, fun ty => hrun, k1, k2⟩
end Go.Proofs.Ytemefcojmidmbaa.Cut
namespace Go.Proofs.Ytemefcojmidmbaa.Cut
open Go.RowKit
attribute [-go_sem] Builtin.append_

theorem pc_neq (k : Int) (B : ByteArray) (w : World) : (binOp .neq 47 (.agg #[.int .u8 k, .string B]) (.agg #[.int .u8 k, .string B])).run Try.prog w = .ok (.bool false) w := by
  have u3 := Try.underlying45
  have u9 := Try.underlying9
  have a3 := Try.isAgg45
  have z3 := Try.sizeOf45
  have a9 := Try.isAgg9
  have z9 := Try.sizeOf9
  have hS : Try.prog.underlying 47 = some (.struct (Try.prog.fieldsOf 47)) := by kernel_rfl
  have hp : Try.prog.stoodInHeld 47 = false := by kernel_rfl
  rw [run_neq_struct, show (10000 : Nat) = 9999 + 1 from rfl, run_equalIn_agg w 9999 47 _ _ hS hp]
  simp only [Program.fieldsOf, Try.underlying47]
  go_simp
theorem pc_guard : Try.prog.eqGuardType Try.prog.depth 47 = false := by kernel_rfl
theorem ct_guard : Try.prog.eqGuardType Try.prog.depth 41 = false := by kernel_rfl
theorem ct_eql (B : ByteArray) (b : Bool) (k : Int) (w : World) : (binOp .eql 41 (.agg #[.string B, .bool b, .int .i64 k]) (.agg #[.string B, .bool b, .int .i64 k])).run Try.prog w = .ok (.bool true) w := by
  have u3 := Try.underlying3
  have u9 := Try.underlying9
  have u4 := Try.underlying4
  have a3 := Try.isAgg3
  have z3 := Try.sizeOf3
  have a9 := Try.isAgg9
  have z9 := Try.sizeOf9
  have a4 := Try.isAgg4
  have z4 := Try.sizeOf4
  have hS : Try.prog.underlying 41 = some (.struct (Try.prog.fieldsOf 41)) := by kernel_rfl
  have hp : Try.prog.stoodInHeld 41 = false := by kernel_rfl
  rw [run_eql_struct, show (10000 : Nat) = 9999 + 1 from rfl, run_equalIn_agg w 9999 41 _ _ hS hp]
  simp only [Program.fieldsOf, Try.underlying41]
  go_simp
theorem HasRow.slice {W : World} {v : Value} {sz n : Nat} {cs : List Value} (h : HasRow W v sz n cs) : ∃ o cap, v = .slice o n cap ∧ n ≤ cap ∧ cap ≤ 9223372036854775807 := by
  rcases h.2 with ⟨h0, rfl⟩ | ⟨a, cap, e, h1, h2, h3, h4⟩
  · exact ⟨none, 0, h0, Nat.le_refl _, by omega⟩
  · exact ⟨some a, cap, e, h1, h2⟩
theorem HasRow.at {W : World} {o : Option Addr} {m cap sz n : Nat} {cs : List Value} (h : HasRow W (.slice o m cap) sz n cs) (hn : 0 < n) : m = n ∧ ∃ b i, o = some ⟨b, i, none⟩ ∧ b < W.heap.size ∧ ∀ j, j < n * sz → W.cell? ⟨b, i + j, none⟩ = cs[j]? := by
  rcases h.2 with ⟨h0, h1⟩ | ⟨a, c, e, h1, h2, h3, h4⟩
  · omega
  · injection e with e1 e2 e3
    subst e1
    obtain ⟨b, i, s⟩ := a
    obtain ⟨hs, hlt⟩ := h3 hn
    simp only at hs hlt
    subst hs
    exact ⟨e2, b, i, rfl, hlt, fun j hj => by rw [← h4 j hj, addr_add]⟩
theorem pcCs_at (ps : List PcT) : ∀ j (h : j < ps.length), (pcCs ps)[2 * j]? = some (.int .u8 (ps[j].1 : Int)) ∧ (pcCs ps)[2 * j + 1]? = some (strV ps[j].2) := by
  induction ps with
  | nil => intro j h; simp at h
  | cons p ps ih =>
    intro j h
    cases j with
    | zero => exact ⟨rfl, rfl⟩
    | succ j =>
      have := ih j (by simpa using h)
      rw [show pcCs (p :: ps) = .int .u8 (p.1 : Int) :: strV p.2 :: pcCs ps from rfl, show 2 * (j + 1) = 2 * j + 1 + 1 by omega]
      simp only [List.getElem?_cons_succ, List.getElem_cons_succ]
      exact this
theorem HasPcs.cell {W : World} {o : Option Addr} {m cap : Nat} {ps : List PcT} (h : HasPcs W (.slice o m cap) ps) (j : Nat) (hj : j < ps.length) : ∃ b i, o = some ⟨b, i, none⟩ ∧ b < W.heap.size ∧ W.cell? ⟨b, i + j * 2, none⟩ = some (.int .u8 (ps[j].1 : Int)) ∧ W.cell? ⟨b, i + j * 2 + 1, none⟩ = some (strV ps[j].2) := by
  obtain ⟨_, b, i, e, hb, hc⟩ := HasRow.at h (by omega)
  have h2 := pcCs_at ps j hj
  exact ⟨b, i, e, hb, by rw [hc (j * 2) (by omega), Nat.mul_comm]; exact h2.1, by rw [Nat.add_assoc, hc (j * 2 + 1) (by omega), Nat.mul_comm]; exact h2.2⟩
theorem HasPcs.keep {W W' : World} {v : Value} {zs : List PcT} (h : HasPcs W v zs) (hb : Below W.heap.size W W') : HasPcs W' v zs := HasRow.keep h hb
theorem below_drewN {B : Nat} {w0 w : World} (h : Below B w0 w) (n : Nat) : Below B w0 (w.drewN n) := h.trans ⟨rfl, rfl, rfl, Nat.le_refl _, fun _ _ => rfl⟩
theorem has_lit (W : World) (ps : List PcT) (n : Nat) (hn : n = ps.length) (hm : n ≤ 1000) (cs : Array Value) (hc : cs = (pcCs ps).toArray) : HasPcs (W.alloc (.cells cs 47)) (.slice (some ⟨W.heap.size, 0, none⟩) n n) ps := by
  subst hn hc
  refine ⟨pcCs_len ps, .inr ⟨⟨W.heap.size, 0, none⟩, ps.length, rfl, Nat.le_refl _, by omega, fun _ => ⟨rfl, by simp⟩, fun j hj => ?_⟩⟩
  rw [addr_add, Nat.zero_add]
  exact (RowAt.new W (pcCs ps) 47).cell j
theorem lv1 : fedC zeroC [0, 0, 245, 0] = (⟨[245, 0], false, 0⟩, [(2, [])]) ∧ checkC zeroC = 0 := ⟨by kernel_rfl, by kernel_rfl⟩
theorem lv2 : fedC ⟨[245, 0], false, 0⟩ [1, 7, 245, 0, 0, 245, 1, 0, 97, 98] = (⟨[], false, 254⟩, [(1, [7]), (3, []), (3, [])]) ∧ checkC ⟨[245, 0], false, 0⟩ = 0 := ⟨by kernel_rfl, by kernel_rfl⟩
theorem lv3 : fedC ⟨[97], false, 0⟩ [98] = (zeroC, []) ∧ checkC ⟨[97], false, 0⟩ = 2 := ⟨by kernel_rfl, by kernel_rfl⟩
end Go.Proofs.Ytemefcojmidmbaa.Cut
