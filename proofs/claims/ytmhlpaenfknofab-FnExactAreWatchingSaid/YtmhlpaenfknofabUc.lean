/- Moves; two rows that attack each other; lists read off. No condition but the sizes. -/
import Derived.Test.YtmhlpaenfknofabUb
import Derived.BigQuiet
namespace Go.Proofs.Ytmhlpaenfknofab
open Go.RowKit Go.WideShapes

/-- A move, as a function value of the program: what it reads stays. -/
structure MoveV (F : FuncId) (cap : Array Value) (I : World → Prop) (D : Int → Int → Bool) : Prop where
  call : ∀ (args : Array Value) (w : World), (callFunc F args).run Try.prog w = .ok (.enter F args) w
  run : ∀ (d r : Int) (W : World), I W → -8 ≤ d → d ≤ 8 → -8 ≤ r → r ≤ 8 → Calls Try.prog F (#[.int .i64 d, .int .i64 r] ++ cap) W fun e w' => e = .returned (.bool (D d r)) ∧ w' = W
  kept : ∀ w w' : World, I w → Below w.heap.size w w' → I w'

theorem bishopQ_any (d r : Int) (W : World) (hr : -8 ≤ r ∧ r ≤ 8) : Calls Try.prog 71 #[.int .i64 d, .int .i64 r] W fun e w' => e = .returned (.bool (bQ d r)) ∧ w' = W := by
  have hn : wrap64 (-r) = -r := IntWalk.wrap64_in _ (by omega)
  unfold bQ
  cases h1 : (d == r)
  · cases h2 : (d == -r)
    · go_enter Try.func71, Try.ntmps71
      go_wp2_with fail
      go_ret
      exact ⟨rfl, rfl⟩
    · go_enter Try.func71, Try.ntmps71
      go_wp2_with fail
      go_ret
      exact ⟨rfl, rfl⟩
  · go_enter Try.func71, Try.ntmps71
    go_wp2_with fail
    go_ret
    exact ⟨rfl, rfl⟩
theorem bishop_moveV : MoveV 71 #[] (fun _ => True) bQ := ⟨fun _ _ => by kernel_rfl, fun d r W _ _ _ h3 h4 => bishopQ_any d r W ⟨h3, h4⟩, fun _ _ _ _ => trivial⟩
set_option maxHeartbeats 1600000 in
theorem fullOf_any (a : Option Addr) (cap : Nat) (xs : List Int) (w : World) (hx : xs.length ≤ 1048576) (hcap : xs.length ≤ cap) (hr : Reads w a xs.length xs) :
    Calls Try.prog 40 #[.slice a xs.length cap] w fun e w' => e = .returned (linV xs.length xs) ∧ Below w.heap.size w w' := by
  have L0 := (Law.start w).has (ql 0 (fun _ => 0)) 57
  rw [show w.alloc (.cells (ql 0 (fun _ => 0)).toArray 57) = w.alloc (.cells #[.int .i64 0, .int .i64 0, .int .i64 0, .int .i64 0, .int .i64 0, .int .i64 0, .int .i64 0, .int .i64 0, .int .i64 0] 57) from rfl] at L0
  have HC := Lib.hid (lineupOf_any xs.length a cap xs _ hx hcap (L0.reads hr))
  have HL := Lib.hid L0
  clear L0 hr
  have key : ∃ (c : Int) (G : Nat → Int) (b : Bool), linV xs.length xs = .tuple #[qv c G, .bool b] := by
    cases h : linB xs.length xs
    · exact ⟨_, _, _, linV_no h⟩
    · exact ⟨_, _, _, linV_yes h⟩
  obtain ⟨c, G, b, hk⟩ := key
  rw [hk] at HC
  have HK := Lib.hid hk
  rw [hk]
  clear hk HK
  generalize xs.length = m at *
  go_enter Try.func40, Try.ntmps40
  go_upto_region 1 with fail
  generalize w.alloc _ = w1 at *
  go_wp2_with (go_at_call 77; ((with_reducible refine HC.out.mono ?_); rintro e w2 ⟨rfl, hb⟩; have HL2 := Lib.hid (HL.out.kept hb); clear hb; obtain ⟨f0, f1, f2, f3, f4, f5, f6, f7, f8, ff⟩ := HL2.out.ownHas.nineQ))
  have hp := HL2.out.ownHas.putQ c G
  have HB := Lib.hid (And.intro HL2.out.below HL2.out.ownHas.lt)
  clear HL HL2 f0 f1 f2 f3 f4 f5 f6 f7 f8 ff
  obtain ⟨f0, f1, f2, f3, f4, f5, f6, f7, f8, ff⟩ := ql_held hp
  clear hp
  refine bodyPost_ret (v := .tuple #[qv c G, .bool b]) (by simp [results, Try.results40, go_sem, f0, f1, f2, f3, f4, f5, f6, f7, f8]) rfl ⟨rfl, ?_⟩
  exact below_putQ HB.out.1 _ (Nat.le_refl _) c G

end Go.Proofs.Ytmhlpaenfknofab
