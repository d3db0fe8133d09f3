package curtain

import (
	"errors"
	"testing"

	"curtain/api"
	"curtain/read"
)

func TestFaultOfGivingUp(t *testing.T) {
	if at, errno := faultOf(read.GiveUp{At: 7}); at != 7 || errno != api.ErrText {
		t.Errorf("faultOf: %d, %d, want 7, ErrText", at, errno)
	}
}

func TestOtherPanicsGoOn(t *testing.T) {
	for _, other := range []any{errors.New("other"), 7, "other"} {
		func() {
			defer func() {
				if caught := recover(); caught != other {
					t.Errorf("faultOf(%v): caught %v", other, caught)
				}
			}()
			faultOf(other)
		}()
	}
}
