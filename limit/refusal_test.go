package limit

import "testing"

// A panic that is no refusal is a fault of the package, and it has to be seen.
func TestAFaultIsNoRefusal(t *testing.T) {
	defer func() {
		if cause := recover(); cause != "a fault" {
			t.Errorf("a fault went on as %v", cause)
		}
	}()
	defer func() { refused(recover()) }()
	panic("a fault")
}
