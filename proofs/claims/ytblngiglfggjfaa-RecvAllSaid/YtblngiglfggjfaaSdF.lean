
/- The statement SendRefuses, and the beginning of all of layer 24's. -/
import Derived.Test.YtblngiglfggjfaaSdC
import Derived.Test.YtblngiglfggjfaaSdE
import Derived.Test.YtblngiglfggjfaaBase
import Derived.Carry
namespace Go.Proofs.Ytblngiglfggjfaa
open Go Go.RowKit Go.Maps Go.MapKept Go.ChangeMaps
set_option maxRecDepth 100000

theorem row_u32 {w : World} {r : Value} {l : List Nat} (h : Row w 22 r (u32V l)) : ∃ a cap, r = .slice a l.length cap ∧ l.length ≤ cap ∧ cap ≤ maxLen := by
  obtain ⟨a, cap, h1, h2, h3⟩ := h.form
  rw [u32V_length] at h1 h2
  exact ⟨a, cap, h1, h2, h3⟩
theorem row_u32_at {w : World} {r : Value} {l : List Nat} (h : Row w 22 r (u32V l)) (h0 : 0 < l.length) :
    ∃ g off cap, r = .slice (some ⟨g, off, none⟩) l.length cap ∧ l.length ≤ cap ∧ g < w.heap.size ∧ ∀ j x, l[j]? = some x → w.cell? ⟨g, off + j, none⟩ = some (.int .u32 (x : Nat)) := by
  obtain ⟨g, off, cap, h1, h2, h3, h4⟩ := h.addr (by rw [u32V_length]; exact h0)
  rw [u32V_length] at h1 h2
  exact ⟨g, off, cap, h1, h2, h3, fun j x hj => h4 j _ (by simp [u32V, hj])⟩
theorem numU_zero {f : Nat} (hf : f < 4294967296) : numU f 0 = f := by unfold numU; omega

end Go.Proofs.Ytblngiglfggjfaa
